package lex_test

import (
	"math"
	"testing"

	"dredger/api"
	"dredger/lex"
)

func TestPrint(t *testing.T) {
	for _, x := range []struct {
		want string
		l    []api.Token
	}{
		{"", nil},
		{"", []api.Token{}},
		{"a", []api.Token{name(7, "a")}},
		{"a b", []api.Token{name(7, "a"), name(3, "b")}},
		{"( )", []api.Token{mark(0, "("), mark(1, ")")}},
		{"31 -5", []api.Token{number(0, "0x1f", 31), number(5, "-05", -5)}},
		{"2147483648 -2147483648", []api.Token{number(0, "", 1<<31), number(0, "7", -1<<31)}},
		{"9223372036854775807 -9223372036854775808", []api.Token{number(0, "", math.MaxInt), number(0, "", math.MinInt)}},
		{`"" "t x"`, []api.Token{quoted(0, ""), quoted(2, "t x")}},
		{"\n", []api.Token{line(0)}},
		{"\n\n", []api.Token{line(0), line(1)}},
		{"a\nb", []api.Token{name(0, "a"), line(1), name(2, "b")}},
		{"\na b\n", []api.Token{line(0), name(1, "a"), name(2, "b"), line(1)}},
		{"a\n", []api.Token{name(0, "a"), {Kind: api.TokLine, Text: "text", Number: 4}}},
		// What Scan would not tell.
		{"A\n B", []api.Token{name(-1, "A\n"), mark(-1, "B")}},
		{"\"\"\" \n\"", []api.Token{quoted(0, `"`), {Kind: api.TokMark}, line(0), mark(0, `"`)}},
		{"", []api.Token{{Kind: 0, Text: "a", Number: 3}}},
		{"", []api.Token{{Kind: 6, Text: "a"}}},
		{"", []api.Token{{Kind: -1, Text: "a"}}},
		{"a  b", []api.Token{name(0, "a"), {Kind: 9, Text: "x"}, name(0, "b")}},
		{" a ", []api.Token{{Kind: math.MinInt}, name(0, "a"), {Kind: math.MaxInt}}},
		{"\n\n", []api.Token{line(0), {Kind: 6}, line(0)}},
	} {
		if got := lex.Print(x.l); got != x.want {
			t.Errorf("%+v: %q, want %q", x.l, got, x.want)
		}
	}
}

// TestPrintAny: tokens made by hand, against the model.
func TestPrintAny(t *testing.T) {
	n := numbers(77)
	for range 20000 {
		l := make([]api.Token, n.next(9))
		for i := range l {
			l[i] = api.Token{Kind: n.next(8) - 1, At: n.next(9) - 4, Text: pick(&n, "", "a", "b$", " ", "\"", "\n", "A", "\x00", "(", "7"), Number: pick(&n, 0, -1, 31, 1<<40, math.MaxInt, math.MinInt)}
		}
		if got, want := lex.Print(l), modelPrint(l); got != want {
			t.Fatalf("%+v: %q, want %q", l, got, want)
		}
	}
}
