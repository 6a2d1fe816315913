package lex_test

import (
	"fmt"
	"slices"
	"strings"
	"testing"

	"dredger/api"
	"dredger/lex"
)

// same asks whether Scan tells of a text what the model does.
func same(t *testing.T, s string) ([]api.Token, error) {
	l, e := lex.Scan(s)
	want, why := modelScan(s)
	if !slices.Equal(l, want) || e != why {
		t.Fatalf("%q: %+v, %v, want %+v, %v", s, l, e, want, why)
	}
	return l, e
}

// TestAllShort: all texts of few bytes.
func TestAllShort(t *testing.T) {
	const letters = "a0x9-\"$( \nA#"
	var all func(s string, more int)
	all = func(s string, more int) {
		same(t, s)
		for i := 0; i < len(letters) && more > 0; i++ {
			all(s+letters[i:i+1], more-1)
		}
	}
	all("", 4)
}

// TestAllPairs: all texts of two bytes, behind a number's and a name's beginning too.
func TestAllPairs(t *testing.T) {
	for a := range 256 {
		for b := range 256 {
			s := string([]byte{byte(a), byte(b)})
			same(t, s)
			same(t, "0x"+s)
			same(t, "\""+s+"\"")
		}
	}
}

// text is tokens and what stands between them, seldom with a fault.
func (n *numbers) text() string {
	var b strings.Builder
	for range n.next(14) {
		switch n.next(12) {
		case 0, 1:
			b.WriteString(pick(n, "a", "_", "open$x", "x", "f0", "call", "e9_"))
		case 2:
			b.WriteString(pick(n, "", "-") + pick(n, "0", "7", "00", "12", "0x0", "0xff", "0x1a", "2147483648", "0x80000000"))
		case 3:
			if n.next(6) == 0 {
				b.WriteString(pick(n, "2147483649", "-", "0x", "\"", "\"a", "A", "$", "0x80000001", "\x80", "99999999999999999999", "é", "\x00"))
			}
		case 4:
			b.WriteString("\"" + pick(n, "", "t", "t x", "#", "~") + "\"")
		case 5, 6, 7:
			b.WriteString(pick(n, "(", ")", "[", "]", "{", "}", ",", ":", "="))
		case 8:
			b.WriteString("\n")
		case 9:
			b.WriteString(pick(n, "#", "# A é \" 0x", "#\x00\xff\r") + pick(n, "\n", "\n", "a"))
		}
		b.WriteString(pick(n, " ", " ", " ", "", "\t", "\r", "  "))
	}
	return b.String()
}

// TestCompare: longer texts. Each fault that the chapter names is met, and so are texts without one.
func TestCompare(t *testing.T) {
	n := numbers(1)
	met := map[string]int{}
	for range 60000 {
		_, e := same(t, n.text())
		why := "none"
		if e != nil {
			why = fmt.Sprint(int(e.(api.Fault).Why))
		}
		met[why]++
	}
	for _, why := range []string{"none", "120", "121", "122"} {
		if met[why] < 500 {
			t.Errorf("too few of %s: %v", why, met)
		}
	}
	if len(met) != 4 {
		t.Errorf("met %v", met)
	}
}

// placeless is tokens without their places, and without the bytes of numbers.
func placeless(l []api.Token) []api.Token {
	l = slices.Clone(l)
	for i := range l {
		l[i].At = 0
		if l[i].Kind == api.TokNumber {
			l[i].Text = ""
		}
	}
	return l
}

// TestThereAndBack: what Print writes is read as the same.
func TestThereAndBack(t *testing.T) {
	n := numbers(2)
	for range 30000 {
		s := n.text()
		l, e := lex.Scan(s)
		if e != nil {
			continue
		}
		printed := lex.Print(l)
		if want := modelPrint(l); printed != want {
			t.Fatalf("%q: printed %q, want %q", s, printed, want)
		}
		back := scan(t, printed)
		if !slices.Equal(placeless(back), placeless(l)) {
			t.Fatalf("%q: printed %q, read %+v, want %+v", s, printed, back, l)
		}
		if again := lex.Print(back); again != printed {
			t.Fatalf("%q: printed %q, and then %q", s, printed, again)
		}
	}
}

// TestBlanksAhead: blanks ahead of a token, and comments where a line ends, move places alone.
func TestBlanksAhead(t *testing.T) {
	n := numbers(3)
	for range 30000 {
		s := n.text()
		l, e := lex.Scan(s)
		if e != nil {
			continue
		}
		var wider strings.Builder
		from := 0
		want := slices.Clone(l)
		for i, token := range l {
			wider.WriteString(s[from:token.At])
			for range n.next(3) {
				wider.WriteString(pick(&n, " ", "\t", "\r"))
			}
			if token.Kind == api.TokLine {
				wider.WriteString(pick(&n, "", "#", "# (A\" ", "#\x00#"))
			}
			want[i].At = wider.Len()
			from = token.At
		}
		wider.WriteString(s[from:] + pick(&n, "", "  ", "#a"))
		if got, e := lex.Scan(wider.String()); e != nil || !slices.Equal(got, want) {
			t.Fatalf("%q: %+v, %v, want %+v", wider.String(), got, e, want)
		}
	}
}
