package text_test

import (
	"errors"
	"fmt"
	"reflect"
	"slices"
	"strings"
	"testing"
	"unicode"

	"dredger/api"
	"dredger/layout"
	"dredger/prog"
	"dredger/text"
)

// maker makes tables, programs and texts.
type maker struct{ *numbers }

func (m maker) name() string { return pick(m.numbers, "a", "b", "c") }

// typed is a type made of those ahead, of which any may stand anywhere.
func (m maker) typed(ahead int) api.Type {
	y := api.Type{Kind: pick(m.numbers, 1+m.next(11), api.TypePtr, api.TypeUnion, api.TypeStruct)}
	if ahead == 0 && y.Kind >= api.TypePtr && y.Kind <= api.TypeUnion {
		y.Kind = api.TypeRes
	}
	if y.Kind <= api.TypeRes {
		y.Size = pick(m.numbers, 1, 2, 4, 8)
	}
	count := 0
	switch y.Kind {
	case api.TypeInt:
		y.Lo = pick(m.numbers, 0, -5, -1<<62, 1<<62-3)
		y.Hi = y.Lo + 3
	case api.TypeConst:
		y.Lo = pick(m.numbers, 0, -1, 7, -1<<62, 1<<62)
	case api.TypeFlags:
		y.Values = []int{1, 8, 1 << 40}
	case api.TypeLen:
		y.Of = m.name()
	case api.TypeRes:
		y.Of, y.Values = pick(m.numbers, "r", "s"), []int{m.next(9) - 4, 7}
	case api.TypePtr:
		count, y.Size, y.Dir = 1, 8, 1+m.next(3)
	case api.TypeArray:
		count, y.Hi = 1, m.next(4)
	case api.TypeStruct, api.TypeUnion:
		count = 1 + m.next(4)
	case api.TypeText:
		y.Texts = []string{"", "/a", strings.Repeat("y", m.next(25)), "\x00\n\"#\xff"}
	case api.TypeData:
		y.Hi = m.next(65)
	}
	for range count {
		y.Elems = append(y.Elems, max(m.next(ahead), m.next(ahead)))
		if y.Kind >= api.TypeStruct {
			y.Names = append(y.Names, m.name())
		}
	}
	return y
}

// table is one that may be, whose calls have unlike names.
func (m maker) table() api.Table {
	names := []string{"r0", "nil", "f", "_", "r", "a$b", "n"}
	for {
		var t api.Table
		for i := range 1 + m.next(14) {
			t.Types = append(t.Types, m.typed(i))
		}
		for i := range 1 + m.next(6) {
			c := api.Call{Name: names[i], Number: m.next(64), Ret: pick(m.numbers, "r", "s", "")}
			for range m.next(7) {
				c.Args, c.Names = append(c.Args, max(m.next(len(t.Types)), m.next(len(t.Types)))), append(c.Names, m.name())
			}
			t.Calls = append(t.Calls, c)
		}
		if prog.Can(t) {
			return t
		}
	}
}

// arg is an argument of a type, behind a program.
func (m maker) arg(t api.Table, n int, p api.Program) api.Arg {
	y := t.Types[n]
	switch y.Kind {
	case api.TypeInt:
		return value(y.Lo + m.next(y.Hi-y.Lo+1))
	case api.TypeConst:
		return value(y.Lo)
	case api.TypeFlags:
		return value(pick(m.numbers, y.Values...) | pick(m.numbers, y.Values...))
	case api.TypeLen:
		return value(0)
	case api.TypeRes:
		for i, s := range slices.Backward(p) {
			if t.Calls[s.Call].Ret == y.Of && m.next(3) > 0 {
				return ref(i)
			}
		}
		return value(pick(m.numbers, y.Values...))
	case api.TypePtr:
		if m.next(5) == 0 {
			return ptr()
		}
		return ptr(m.arg(t, y.Elems[0], p))
	case api.TypeUnion:
		k := m.next(len(y.Elems))
		return part(k, m.arg(t, y.Elems[k], p))
	case api.TypeText:
		return data(pick(m.numbers, y.Texts...))
	case api.TypeData:
		b := make([]byte, y.Lo+m.next(y.Hi-y.Lo+1))
		for i := range b {
			b[i] = byte(m.next(256))
		}
		return data(string(b))
	}
	elems := y.Elems
	if y.Kind == api.TypeArray {
		elems = slices.Repeat(elems, y.Lo+m.next(y.Hi-y.Lo+1))
	}
	a := group()
	for _, k := range elems {
		a.Kids = append(a.Kids, m.arg(t, k, p))
	}
	return a
}

// program is one of a table.
func (m maker) program(t *testing.T, x api.Table, most int) (p api.Program) {
	for range m.next(most + 1) {
		s := step(m.next(len(x.Calls)))
		for _, n := range x.Calls[s.Call].Args {
			s.Args = append(s.Args, m.arg(x, n, p))
		}
		p = append(p, s)
	}
	p, e := layout.Fix(x, p)
	if e != api.OK {
		t.Fatal(e)
	}
	return p
}

// compare asks whether a text is read as the model reads it, and, if it is a program's, has one form.
func compare(t *testing.T, x api.Table, s string) api.Errno {
	t.Helper()
	want, fault := modelParse(x, s)
	p, err := text.Parse(x, s)
	var f api.Fault
	if errors.As(err, &f) != (err != nil) || f != fault || !reflect.DeepEqual(trim(p), trim(want)) {
		t.Fatalf("%+v, %q: %+v, %v, want %+v, %v", x, s, p, err, want, fault)
	}
	if err != nil {
		return f.Why
	}
	printed, e := text.Print(x, p)
	if e != api.OK || printed != modelPrint(x, p) {
		t.Fatalf("%+v, %q: printed %q, %v, want %q", x, s, printed, e, modelPrint(x, p))
	}
	back, err := text.Parse(x, printed)
	if err != nil || !reflect.DeepEqual(trim(back), trim(p)) {
		t.Fatalf("%+v, %q: printed %q, read %+v, %v", x, s, printed, back, err)
	}
	if again, e := text.Print(x, back); e != api.OK || again != printed {
		t.Fatalf("%+v, %q: printed %q, and then %q", x, s, printed, again)
	}
	return api.OK
}

// TestThereAndBack: the text of a program is read as it.
func TestThereAndBack(t *testing.T) {
	n := numbers(1)
	for i := range 3000 {
		m := maker{&n}
		x := m.table()
		p := m.program(t, x, []int{3, 8, 64}[i%3])
		s, e := text.Print(x, p)
		if e != api.OK || s != modelPrint(x, p) {
			t.Fatalf("%+v, %+v: %q, %v, want %q", x, p, s, e, modelPrint(x, p))
		}
		if q, err := text.Parse(x, s); err != nil || !reflect.DeepEqual(trim(q), trim(p)) {
			t.Fatalf("%+v, %+v: %q is read as %+v, %v", x, p, s, q, err)
		}
	}
}

// pieces is what a text is made of, and what it is not.

func pieces() []string {
	return []string{"r0", "r1", "r999", "r1000", "r", "=", "f", "nil", "make", "(", ")", ",", ",", "0", "-1", "7", "00", "-0", "4611686018427387904", "4611686018427387905", "-4611686018427387905", "&", "{", "}", "@0", "@1", "@2 ", "@1000", "@", "\"\"", "\"61\"", "\"6\"", "\"", "\"A0\"", " ", "  ", "\n", "\n#", "#", "\t", "é", "\x00", "-"}
}

// changed is a text in which something was put in, taken out, or doubled, or a digit is another one.
func (m maker) changed(s string) string {
	at := m.next(len(s) + 1)
	to := min(len(s), at+m.next(4))
	switch m.next(7) {
	case 0, 1:
		return s[:at] + pick(m.numbers, pieces()...) + s[at:]
	case 2:
		return s[:at] + s[to:]
	case 3:
		return s[:at] + pick(m.numbers, pieces()...) + s[to:]
	case 4:
		return s[:to] + s[at:]
	}
	digit := at + max(0, strings.IndexFunc(s[at:], unicode.IsDigit))
	return s[:digit] + fmt.Sprint(m.next(10)) + s[min(len(s), digit+1):]
}

// loose is a text with blanks put in or taken out where nothing hangs on them, and with lines that say nothing.
func (m maker) loose(s string) string {
	var out strings.Builder
	for i := range len(s) {
		switch c := s[i]; {
		case c == ' ' && i > 0 && !isDigit(s[i-1]) && m.next(2) == 0:
		case strings.IndexByte("(){},=&", c) >= 0:
			out.WriteString(pick(m.numbers, "", "", " ", "   ") + string(c) + pick(m.numbers, "", "", " ", "  "))
		case c == '\n':
			out.WriteString(pick(m.numbers, "", "  ") + "\n" + pick(m.numbers, "", "", "\n", "  # x = (\n", "   ", " \n#\n"))
		default:
			out.WriteByte(c)
		}
	}
	return out.String()
}

func isDigit(c byte) bool { return c >= '0' && c <= '9' }

// TestCompare: texts of programs, loosened and changed.
func TestCompare(t *testing.T) {
	n := numbers(2)
	met := map[api.Errno]int{}
	for i := range 12000 {
		m := maker{&n}
		x := m.table()
		p := m.program(t, x, []int{2, 5, 12}[i%3])
		s := m.loose(modelPrint(x, p))
		if e := compare(t, x, s); e != api.OK {
			t.Fatalf("%+v, %q: %v", x, s, e)
		}
		for range 3 {
			s = m.changed(s)
			met[compare(t, x, s)]++
		}
	}
	for _, why := range []api.Errno{api.OK, api.ErrText, api.ErrCount, api.ErrKind, api.ErrValue, api.ErrRef, api.ErrLen} {
		if met[why] < 40 {
			t.Errorf("too few of %v: %v", why, met)
		}
	}
	if len(met) != 7 {
		t.Error(met)
	}
}

// TestComparePieces: lines of any pieces.
func TestComparePieces(t *testing.T) {
	n := numbers(3)
	x := wide()
	x.Calls = append(x.Calls, api.Call{Name: "f"}, api.Call{Name: "make", Ret: "fd"})
	met := map[api.Errno]int{}
	for range 100000 {
		var s strings.Builder
		for range 1 + n.next(3) {
			s.WriteString(pick(&n, "v(", "d(", "p(", "l({", "r(", "u(@0 ", "u(@", "f(", "r0 = make(", ""))
			for range n.next(6) {
				s.WriteString(pick(&n, pieces()...))
			}
			s.WriteString(pick(&n, ")", ")", "})", "") + pick(&n, "\n", "\n", ""))
		}
		met[compare(t, x, s.String())]++
	}
	for _, why := range []api.Errno{api.OK, api.ErrText, api.ErrCount, api.ErrKind, api.ErrRef} {
		if met[why] < 20 {
			t.Errorf("too few of %v: %v", why, met)
		}
	}
}

// each hands all texts of up to so many of some bytes to a function.
func each(some string, most int, do func(s string)) {
	var longer func(s string)
	longer = func(s string) {
		do(s)
		if len(s) < most {
			for i := range len(some) {
				longer(s + some[i:i+1])
			}
		}
	}
	longer("")
}

// TestShort: all short texts, and all short lists of arguments, of some bytes.
func TestShort(t *testing.T) {
	x := api.Table{Calls: []api.Call{{Name: "r0"}, {Name: "r", Ret: "x"}}}
	met := map[api.Errno]int{}
	each("r0=() #\n", 6, func(s string) { met[compare(t, x, s)]++ })
	if met[api.OK] < 100 || met[api.ErrText] < 1000 || met[api.ErrCount] == 0 {
		t.Error(met)
	}
	x = wide()
	for i, name := range []string{"v", "d", "p", "l", "r", "u"} {
		met := map[api.Errno]int{}
		each([]string{"01-, ", "0a\" }", "&nil0 ", "{},0 ", "r01 ,", "@01-r\" "}[i], 5, func(s string) { met[compare(t, x, "v(0)\n"+name+"("+s+")")]++ })
		if met[api.OK] < 4 || met[api.ErrText] < 1000 || met[api.ErrCount] == 0 {
			t.Error(name, met)
		}
	}
}

// TestAnyBytes: whatever bytes they are.
func TestAnyBytes(t *testing.T) {
	n := numbers(4)
	x := wide()
	for range 40000 {
		b := make([]byte, n.next(30))
		for i := range b {
			b[i] = pick(&n, byte(n.next(256)), byte(n.next(128)), "v(1)\n "[n.next(6)])
		}
		compare(t, x, string(b))
	}
}

// TestCompareDeep: nested in any ways, about as deep as may be.
func TestCompareDeep(t *testing.T) {
	n := numbers(5)
	x := wide()
	met := map[api.Errno]int{}
	for range 1000 {
		var open, shut strings.Builder
		for range 395 + n.next(8) {
			k := n.next(4)
			open.WriteString([]string{"&", "{", "@1 ", "{r0, nil, "}[k])
			shut.WriteString([]string{"", "}", "", "}"}[k])
		}
		s := fmt.Sprint("p(", open.String(), pick(&n, "0", "{}", "", "nil", "00", "?"), shut.String(), pick(&n, ")", ""))
		met[compare(t, x, s)]++
	}
	if met[api.ErrDeep] < 100 || met[api.ErrText] < 100 || met[api.ErrKind] < 60 || len(met) != 3 {
		t.Error(met)
	}
}
