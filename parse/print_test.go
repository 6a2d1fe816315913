package parse_test

import (
	"math"
	"reflect"
	"strings"
	"testing"

	"dredger/api"
	"dredger/parse"
)

func TestPrint(t *testing.T) {
	x, some := bare(7, "x"), api.Expr{Name: "y", Values: []int{1, -2}}
	fields := []api.Field{{Name: "a", Type: x}, {Name: "b", At: 5, Type: some}}
	for want, l := range map[string][]api.Decl{
		"":                                                  nil,
		"resource fd [ int32 ] : -1 , 0\n":                  {{Kind: api.DeclResource, Name: "fd", Base: "int32", Values: []int{-1, 0}}},
		"flags f = 1 , 2 , 2\n":                             {{Kind: api.DeclFlags, Name: "f", Values: []int{1, 2, 2}}},
		"const c = -2147483648\n":                           {{Kind: api.DeclConst, Name: "c", Number: -1 << 31}},
		"struct s { a x , b y [ 1 , -2 ] }\n":               {{Kind: api.DeclStruct, Name: "s", Fields: fields}},
		"union u { a x }\n":                                 {{Kind: api.DeclUnion, Name: "u", Fields: fields[:1]}},
		"call f ( 3 ) ( )\n":                                {{Kind: api.DeclCall, Name: "f", Number: 3}},
		"call f ( 3 ) ( ) fd\n":                             {{Kind: api.DeclCall, Name: "f", Number: 3, Ret: "fd"}},
		"call f ( 3 ) ( a x , b y [ 1 , -2 ] ) fd\n":        {{Kind: api.DeclCall, Name: "f", Number: 3, Fields: fields, Ret: "fd"}},
		"const a = 1\nconst b = 2\n":                        {{Kind: api.DeclConst, Name: "a", Number: 1}, {Kind: api.DeclConst, Name: "b", Number: 2}},
		"const a = 9223372036854775807\nflags f = -7\n":     {{Kind: api.DeclConst, Name: "a", Number: math.MaxInt}, {Kind: api.DeclFlags, Name: "f", Values: []int{-7}}},
		"resource fd [ int32 ] :\nflags f =\nunion u { }\n": {{Kind: api.DeclResource, Name: "fd", Base: "int32"}, {Kind: api.DeclFlags, Name: "f"}, {Kind: api.DeclUnion, Name: "u"}},
		// Kinds that are none, and fields that a kind has not.
		"const c = 0\n": {{Name: "a"}, {Kind: -1, Name: "a"}, {Kind: api.DeclConst, Name: "c", Base: "b", Values: []int{1}, Fields: fields, Ret: "r"}, {Kind: 7, Name: "a"}, {Kind: math.MaxInt}, {Kind: math.MinInt}},
		"flags f = 5\n": {{Kind: api.DeclFlags, Name: "f", Number: 3, Values: []int{5}, Fields: fields}},
	} {
		if got := parse.Print(l); got != want {
			t.Errorf("%+v: %q, want %q", l, got, want)
		}
	}
}

func TestPrintTypes(t *testing.T) {
	x, some := bare(7, "x"), api.Expr{At: 3, Name: "y", Values: []int{1}}
	all := api.Expr{Types: []api.Expr{some, x}, Names: []string{"n", "m"}, Values: []int{5, 6}, Texts: []string{"", "t u"}}
	named := func(name string) api.Expr {
		e := all
		e.Name = name
		return e
	}
	for want, e := range map[string]api.Expr{
		"t": {Name: "t"},
		"t [ y [ 1 ] , x , n , m , \"\" , \"t u\" , 5 , 6 ]": named("t"),
		"ptr [ n , m , y [ 1 ] , x ]":                        named("ptr"),
		"array [ y [ 1 ] , x , 5 , 6 ]":                      named("array"),
		"ptr":                                                {Name: "ptr", Values: []int{1}, Texts: []string{"a"}},
		"array":                                              {Name: "array", Names: []string{"n"}, Texts: []string{"a"}},
		"t [ \"a\" ]":                                        {Name: "t", Texts: []string{"a"}},
		"t [ n ]":                                            {Name: "t", Names: []string{"n"}},
		"t [ ptr [ in , array [ x , 2 ] ] ]":                 {Name: "t", Types: []api.Expr{{Name: "ptr", Names: []string{"in"}, Types: []api.Expr{{Name: "array", Types: []api.Expr{x}, Values: []int{2}}}}}},
	} {
		l := []api.Decl{{Kind: api.DeclUnion, Name: "u", Fields: []api.Field{{Name: "a", Type: e}}}}
		if got := parse.Print(l); got != "union u { a "+want+" }\n" {
			t.Errorf("%+v: %q, want %q", e, got, want)
		}
	}
}

// TestPrintDeep: types that are nested deeper than Parse takes.
func TestPrintDeep(t *testing.T) {
	const deep = 1 << 16
	e := bare(0, "x")
	for range deep {
		e = api.Expr{Name: "t", Types: []api.Expr{e}}
	}
	got := parse.Print([]api.Decl{{Kind: api.DeclUnion, Name: "u", Fields: []api.Field{{Name: "a", Type: e}}}})
	if want := "union u { a " + strings.Repeat("t [ ", deep) + "x" + strings.Repeat(" ]", deep) + " }\n"; got != want {
		t.Errorf("%d bytes, want %d", len(got), len(want))
	}
}

// any kind of type, made by hand.
func (n *numbers) expr(within int) api.Expr {
	e := api.Expr{At: n.next(9) - 4, Name: pick(n, "a", "ptr", "array", "t", "")}
	for within < 4 && n.next(3) == 0 {
		e.Types = append(e.Types, n.expr(within+1))
	}
	for n.next(3) == 0 {
		e.Names = append(e.Names, pick(n, "in", "x", "", "[", "\n"))
	}
	for n.next(3) == 0 {
		e.Values = append(e.Values, pick(n, 0, 1, -1, 1<<31, math.MaxInt, math.MinInt))
	}
	for n.next(3) == 0 {
		e.Texts = append(e.Texts, pick(n, "", "a", "\"", "\n"))
	}
	return e
}

// TestPrintAny: declarations made by hand, against the model.
func TestPrintAny(t *testing.T) {
	n := numbers(7)
	for range 10000 {
		l := make([]api.Decl, n.next(4))
		for i := range l {
			d := api.Decl{Kind: n.next(9) - 1, At: n.next(9), Number: n.next(99) - 9, Name: pick(&n, "a", "call", "", "A"), Base: pick(&n, "int8", ""), Ret: pick(&n, "", "fd", "]")}
			for n.next(2) == 0 {
				d.Values = append(d.Values, n.next(9)-4)
			}
			for n.next(2) == 0 {
				d.Fields = append(d.Fields, api.Field{Name: pick(&n, "a", "b", ""), At: n.next(9), Type: n.expr(0)})
			}
			l[i] = d
		}
		if got, want := parse.Print(l), modelPrint(l); got != want {
			t.Fatalf("%+v: %q, want %q", l, got, want)
		}
	}
}

// partly is a type that has parts, all in the order of Print.
func (n *numbers) partly(within int) string {
	var parts []string
	add := func(least int, part func() string) {
		for range least + n.next(2) {
			parts = append(parts, part())
		}
	}
	deeper := func() string { return n.partly(within + 1) }
	word := func() string { return pick(n, "in", "x", "ptr", "array", "t") }
	if within >= 6 {
		deeper = func() string { return "t [ 5 ]" }
	}
	name := pick(n, "ptr", "array", "t", "int8")
	switch name {
	case "ptr":
		parts = append(parts, pick(n, word, deeper)())
		if n.next(4) > 0 {
			parts = append(parts, pick(n, word, deeper)())
			add(0, deeper)
		}
	case "array":
		if n.next(4) > 0 {
			parts = append(parts, pick(n, word, deeper)())
			add(0, deeper)
		}
		add(1, n.value)
	default:
		add(0, deeper)
		add(0, word)
		add(0, func() string { return pick(n, `""`, `"a b"`) })
		add(1, n.value)
	}
	return name + "[" + strings.Join(parts, ",") + "]"
}

// TestThereAndBack: what Print writes is read as the same, if types' parts stand in its order.
func TestThereAndBack(t *testing.T) {
	n := numbers(8)
	for range 10000 {
		s := "resource fd[int8]: 1, 2\nflags f = 0x3\nconst c = -0\n" + pick(&n, "struct", "union") + " s { a " + n.partly(0) + ", b " + pick(&n, "x", "ptr", "array", n.partly(0)) + " }\ncall f(1)(a " + n.partly(0) + ")" + pick(&n, "", "fd")
		l, e := parse.Parse(s)
		if e != nil {
			t.Fatalf("%q: %v", s, e)
		}
		printed := parse.Print(l)
		if want := modelPrint(l); printed != want {
			t.Fatalf("%q: printed %q, want %q", s, printed, want)
		}
		if back := read(t, printed); !reflect.DeepEqual(placeless(back), placeless(l)) {
			t.Fatalf("%q: printed %q, read %+v, want %+v", s, printed, back, l)
		}
	}
}
