package parse_test

import (
	"strings"
	"testing"

	"dredger/api"
)

// TestLexFaults: those of lex come first, wherever they stand.
func TestLexFaults(t *testing.T) {
	refuses(t, strings.Repeat("\n", 4001), 0, api.ErrFull)
	refuses(t, "jump !", 5, api.ErrChar)
	refuses(t, "} 5x", 3, api.ErrChar)
	refuses(t, "jump \"a", 5, api.ErrQuote)
	refuses(t, "const c = 2147483649", 10, api.ErrBig)
	refuses(t, "call f(1)(a "+strings.Repeat("a[", 20)+"-", 52, api.ErrChar)
	tells(t, strings.Repeat("\n", 4000))
}

// TestWrongTokens: the first one that can't stand there.
func TestWrongTokens(t *testing.T) {
	for s, at := range map[string]int{
		"jump": 0, "jump x": 0, "5": 0, "(": 0, "\"call\"": 0, "\n  ,": 3, "calls f(1)()": 0, "_": 0,
		"const c = 1\n}": 12, "const c = 1 const d = 2": 12, "const c = 5 6": 12, "const c = 5, 6": 11, "const c = 1:2": 11,
		"const = 5": 6, "const 5": 6, "const c 5": 8, "const c : 5": 8, "const c = c": 10, "const c = \"5\"": 10, "const c = -5 #\n-6": 15,
		"flags 1": 6, "flags f : 1": 8, "flags f = x": 10, "flags f = 1 2": 12, "flags f = 1,,2": 12, "flags f = ,": 10, "flags f = 1:2": 11, "flags f = 1, x": 13,
		"resource [": 9, "resource a = 1": 11, "resource a(b): 1": 10, "resource a[1]: 1": 11, "resource a[]: 1": 11, "resource a[b,c]: 1": 12, "resource a[b)": 12, "resource a[b] = 1": 14, "resource a[b]: x": 15, "resource a[b]: 1]": 16,
		"struct {": 7, "struct s (": 9, "struct s { }": 11, "struct s { a }": 13, "struct s { a b c }": 15, "struct s { a b, }": 16, "struct s { , }": 11, "struct s { a b )": 15, "struct s { 5 }": 11, "struct s { a 5 }": 13, "struct s { a \"b\" }": 13, "struct s { a b } c": 17, "struct s { a b }}": 16,
		"union u { }": 10, "union u [": 8, "union u { a: b }": 11, "union u { a b= }": 13,
		"call (": 5, "call f[1]()": 6, "call f()()": 7, "call f(x)()": 7, "call f(1,2)()": 8, "call f(1) fd": 10, "call f(1)[": 9, "call f(1)(a)": 11, "call f(1)(a b": 13, "call f(1)(a b,)": 14, "call f(1)(,)": 10, "call f(1)(a b}": 13, "call f(1)() 5": 12, "call f(1)() a b": 14, "call f(1)() call g(2)()": 17, "call f(1)()()": 11,
		"union u { a b[] }": 14, "union u { a b[,] }": 14, "union u { a b[1,] }": 16, "union u { a b[1 2] }": 16, "union u { a b[1:] }": 16, "union u { a b[1:x] }": 16, "union u { a b[:1] }": 14, "union u { a b[1:2:3] }": 17, "union u { a b[\"x\":1] }": 17, "union u { a b[c d] }": 16, "union u { a b[c:1] }": 15, "union u { a b[1) }": 15, "union u { a b[1]] }": 16, "union u { a b[1][2] }": 16, "union u { a b[{] }": 14, "union u { a b[=] }": 14, "union u { a b(1) }": 13, "union u { a b[\"x\" \"y\"] }": 18, "union u { a b[c[1] d] }": 19,
	} {
		refuses(t, s, at, api.ErrToken)
	}
}

// TestMoreIsWanted: the fault stands at the end, behind blanks and comments too.
func TestMoreIsWanted(t *testing.T) {
	for _, s := range []string{
		"resource", "resource a", "resource a[", "resource a[b", "resource a[b]", "resource a[b]:", "resource a[b]: 1,", "resource a[b]: 1,\n\n",
		"flags", "flags f", "flags f =", "flags f = 1,", "const", "const c", "const c =",
		"struct", "struct s", "struct s {", "struct s {\n", "struct s { a", "struct s { a b", "struct s { a b\n", "struct s { a b,", "struct s { a b,\n\n", "union u { a b[", "union u { a b[1", "union u { a b[1:", "union u { a b[1,", "union u { a b[1,\n", "union u { a b[c", "union u { a b[c[\"\"]", "union u { a b[1]",
		"call", "call f", "call f(", "call f(1", "call f(1)", "call f(1)(", "call f(1)(\n\n", "call f(1)(a", "call f(1)(a b", "call f(1)(a b\n", "call f(1)(a b,",
		"const c = 1\ncall",
	} {
		for _, behind := range []string{"", "  ", "# more"} {
			refuses(t, s+behind, len(s+behind), api.ErrToken)
		}
	}
}

// nested is a field's type with a part within so many others.
func nested(inner string, within int) string {
	return "union u { a " + strings.Repeat("t[", within) + inner + strings.Repeat("]", within) + " }"
}

func TestDeep(t *testing.T) {
	for _, inner := range []string{"x", "x[1]", "x[\"a\"]", "ptr", "array", "1", "1:2", "\"x\""} {
		read(t, nested(inner, 7))
	}
	for _, inner := range []string{"1", "1:2", "\"x\"", "1, 2, \"x\""} {
		read(t, nested(inner, 8))
	}
	for _, inner := range []string{"x", "x[1]", "x x", "x[", "x[[", "x)"} {
		refuses(t, nested(inner, 8), 28, api.ErrDeep)
	}
	refuses(t, nested("x", 9), 28, api.ErrDeep)
	refuses(t, nested("1, x", 8), 31, api.ErrDeep)
	refuses(t, nested("]", 8), 28, api.ErrToken)
	refuses(t, nested("{", 8), 28, api.ErrToken)
	refuses(t, "union u { a ptr[in, array[t[t[t[t[t[t[x]]]]]]]] }", 38, api.ErrDeep)
	// A way out of types makes room again, and a fault ahead is the first.
	read(t, "union u { a t[t[t[t[t[t[t[t[1]]]]]]], t[t[t[t[t[t[t[2]]]]]]], x], b t[t[t[t[t[t[t[t[1]]]]]]]] }")
	refuses(t, "union u { a t[t[t[t[t[t[t[t[1]]]]]]], t[t[t[t[t[t[t[x]]]]]]]] }", 52, api.ErrDeep)
	refuses(t, "union u { a b c, d t[t[t[t[t[t[t[t[x]]]]]]]] }", 14, api.ErrToken)
}
