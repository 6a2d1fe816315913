package parse_test

import (
	"fmt"
	"reflect"
	"strings"
	"testing"

	"dredger/api"
	"dredger/parse"
)

// same asks whether Parse tells of a text what the model does.
func same(t *testing.T, s string) ([]api.Decl, error) {
	t.Helper()
	l, e := parse.Parse(s)
	want, why := modelParse(s)
	if e != why || !reflect.DeepEqual(trimDecls(l), trimDecls(want)) {
		t.Fatalf("%q: %+v, %v, want %+v, %v", s, l, e, want, why)
	}
	return l, e
}

// alphabet is a word for each kind of token, and each that the grammar or a type's rules name.
var alphabet = []string{"a", "ptr", "array", "resource", "flags", "const", "struct", "union", "call", "5", `"t"`, "(", ")", "[", "]", "{", "}", ",", ":", "=", "\n"}

// TestAllShort: all descriptions of few tokens.
func TestAllShort(t *testing.T) {
	var all func(s string, more int)
	all = func(s string, more int) {
		same(t, s)
		for i := 0; i < len(alphabet) && more > 0; i++ {
			all(s+alphabet[i]+" ", more-1)
		}
	}
	all("", 3)
}

// TestEachToken: at each place of some descriptions each token, in the place of what is there and ahead of it, and the end; lines' ends go on.
func TestEachToken(t *testing.T) {
	for _, s := range []string{
		"resource a [ int8 ] : 1 , 2 \n flags a = 1 , 2",
		"const c = 5 \n const d = -5 \n",
		"struct s { a b , \n c ptr [ in , x [ 1 : 2 ] ] \n } \n",
		"union u { a array [ x , y , 1 ] , b t [ x , \"u\" , v [ 2 ] ] }",
		"call f ( 3 ) ( \n a b , c d [ e ] \n ) r \n call g ( 4 ) ( ) \n",
		"union u { a t [ t [ t [ t [ t [ t [ t [ t [ 1 , 2 ] , x ] , x ] , x ] ] ] ] ] ] }",
	} {
		words := strings.Split(s, " ")
		for i := range words {
			ahead, behind := strings.Join(words[:i], " ")+" ", " "+strings.Join(words[i+1:], " ")
			same(t, ahead)
			same(t, ahead+behind)
			for _, w := range alphabet {
				same(t, ahead+w+behind)
				same(t, ahead+w+" "+words[i]+behind)
				same(t, ahead+w+" "+w+" "+words[i]+behind)
			}
		}
	}
}

// line is a line's end now and then, as a word.
func (n *numbers) line(often int) string {
	if n.next(100) < often {
		return strings.Repeat(" \n ", 1+n.next(2))
	}
	return " "
}

// list is items with commas between them.
func (n *numbers) list(least, most int, item func() string) string {
	var items []string
	for range least + n.next(most-least+1) {
		items = append(items, item())
	}
	return strings.Join(items, ","+n.line(15))
}

func (n *numbers) value() string { return pick(n, "0", "1", "-1", "0x1f", "2147483648", "007", "-0") }

// typed is a type as it is written, within so many others.
func (n *numbers) typed(within int) string {
	name := pick(n, "a", "int8", "ptr", "ptr", "array", "array", "text", "call", "t$0")
	if n.next(3) == 0 || within >= 9 {
		return name
	}
	return name + pick(n, "", " ") + "[" + n.list(1, 3, func() string {
		switch n.next(8) {
		case 0, 1:
			return n.value()
		case 2:
			return n.value() + pick(n, ":", " : ") + n.value()
		case 3:
			return pick(n, `""`, `"a"`, `"#,]"`)
		case 4:
			return pick(n, "in", "x", "ptr", "array")
		}
		return n.typed(within + 1)
	}) + "]"
}

func (n *numbers) field() string { return pick(n, "a", "b", "c$", "struct") + " " + n.typed(0) }

func (n *numbers) decl() string {
	name := pick(n, "f", "fd", "s", "_", "call") + pick(n, "", " ")
	switch n.next(7) {
	case 0:
		return "resource " + name + "[int32]:" + n.list(1, 3, n.value)
	case 1:
		return "flags " + name + "=" + n.list(1, 3, n.value)
	case 2:
		return "const " + name + "= " + n.value()
	case 3, 4:
		return pick(n, "struct ", "union ") + name + "{" + n.line(30) + n.list(1, 3, n.field) + n.line(30) + "}"
	}
	return "call " + name + "(" + n.value() + ")(" + n.line(30) + n.list(0, 3, n.field) + n.line(30) + ")" + pick(n, "", "r", " fd")
}

// description is lines, with faults now and then.
func (n *numbers) description() string {
	var b strings.Builder
	for range n.next(5) {
		b.WriteString(pick(n, "", "", "\n", " # why\n", "\t\n\n"))
		b.WriteString(n.decl() + pick(n, "\n", "\n", "\n", " #c\n"))
	}
	s := b.String()
	for n.next(3) == 0 && s != "" {
		i := n.next(len(s))
		s = s[:i] + pick(n, "", " ", " "+pick(n, alphabet...)+" ") + s[min(len(s), i+n.next(3)):]
	}
	return s
}

// TestCompare: longer descriptions. Each fault that the chapter names is met, and so are descriptions without one.
func TestCompare(t *testing.T) {
	n := numbers(1)
	met := map[string]int{}
	for range 20000 {
		l, e := same(t, n.description())
		why := "none"
		if e != nil {
			why = fmt.Sprint(int(e.(api.Fault).Why))
		} else if len(l) == 0 {
			why = "empty"
		}
		met[why]++
	}
	for _, why := range []string{"none", "empty", "130", "6", "120", "121"} {
		if met[why] < 50 {
			t.Errorf("too few of %s: %v", why, met)
		}
	}
}

// TestEmptyLines: lines without tokens, where a line ends, change nothing but places.
func TestEmptyLines(t *testing.T) {
	n := numbers(2)
	for range 5000 {
		s := n.description()
		l, e := parse.Parse(s)
		if e != nil {
			continue
		}
		lines := strings.Split(s, "\n")
		for i := range lines {
			lines[i] += strings.Repeat("\n"+pick(&n, "", " \t", "# x"), n.next(3))
		}
		wide := pick(&n, "", "\n", "#\n\n") + strings.Join(lines, "\n") + pick(&n, "", "\n")
		if got := read(t, wide); !reflect.DeepEqual(placeless(got), placeless(l)) {
			t.Fatalf("%q: %+v, want %+v", wide, got, l)
		}
	}
}
