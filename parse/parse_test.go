package parse_test

import (
	"errors"
	"reflect"
	"testing"

	"dredger/api"
	"dredger/parse"
)

// numbers is a source of the same numbers each time.
type numbers uint64

func (n *numbers) next(below int) int {
	*n = *n*6364136223846793005 + 1442695040888963407
	return int(uint64(*n)>>33) % below
}

// pick is one of a list.
func pick[T any](n *numbers, list ...T) T { return list[n.next(len(list))] }

// read asks for the declarations of a description that has no fault.
func read(t *testing.T, s string) []api.Decl {
	t.Helper()
	l, e := parse.Parse(s)
	if e != nil {
		t.Fatalf("%q: %v", s, e)
	}
	return l
}

// tells asks for a description's declarations; empty lists are nil in them.
func tells(t *testing.T, s string, want ...api.Decl) {
	t.Helper()
	if l, e := parse.Parse(s); e != nil || !reflect.DeepEqual(trimDecls(l), trimDecls(want)) {
		t.Errorf("%q: %+v, %v, want %+v", s, l, e, want)
	}
}

// refuses asks for a description's fault: a value, with that place, in which errors.Is finds that number alone.
func refuses(t *testing.T, s string, at int, why api.Errno) {
	t.Helper()
	l, e := parse.Parse(s)
	if f, ok := e.(api.Fault); !ok || f != (api.Fault{At: at, Why: why}) || len(l) != 0 {
		t.Errorf("%q: %+v, %v, want %v at %d", s, l, e, why, at)
		return
	}
	var f api.Fault
	if !errors.As(e, &f) || f.At != at {
		t.Errorf("%q: errors.As finds %v", s, f)
	}
	for n := range api.Errno(240) {
		if errors.Is(e, n) != (n == why) {
			t.Errorf("%q: errors.Is of %v is %v", s, n, errors.Is(e, n))
		}
	}
}

// trim is a list whose emptiness is nil, each item by a function.
func trim[T any](l []T, item func(T) T) []T {
	var out []T
	for _, x := range l {
		out = append(out, item(x))
	}
	return out
}

func as[T any](x T) T { return x }

func trimDecls(l []api.Decl) []api.Decl {
	return trim(l, func(d api.Decl) api.Decl {
		d.Values = trim(d.Values, as)
		d.Fields = trim(d.Fields, func(f api.Field) api.Field {
			f.Type = trimExpr(f.Type)
			return f
		})
		return d
	})
}

func trimExpr(e api.Expr) api.Expr {
	e.Types = trim(e.Types, trimExpr)
	e.Names, e.Values, e.Texts = trim(e.Names, as), trim(e.Values, as), trim(e.Texts, as)
	return e
}

// placeless is declarations with all places 0.
func placeless(l []api.Decl) []api.Decl {
	return trim(trimDecls(l), func(d api.Decl) api.Decl {
		d.At = 0
		d.Fields = trim(d.Fields, func(f api.Field) api.Field {
			f.At, f.Type = 0, placelessExpr(f.Type)
			return f
		})
		return d
	})
}

func placelessExpr(e api.Expr) api.Expr {
	e.At, e.Types = 0, trim(e.Types, placelessExpr)
	return e
}

// bare is a type that is a name.
func bare(at int, name string) api.Expr { return api.Expr{At: at, Name: name} }

// TestExample: of the chapter.
func TestExample(t *testing.T) {
	pointer := api.Expr{At: 12, Name: "ptr", Names: []string{"in"}, Types: []api.Expr{bare(20, "int8")}}
	tells(t, "call f(3)(a ptr[in, int8]) fd", api.Decl{
		Kind: api.DeclCall, Name: "f", Number: 3, Fields: []api.Field{{Name: "a", At: 10, Type: pointer}}, Ret: "fd",
	})
}

func TestDeclarations(t *testing.T) {
	tells(t, "")
	tells(t, " \n\n# nothing\n")
	tells(t, "resource fd[int32]: -1", api.Decl{Kind: api.DeclResource, Name: "fd", Base: "int32", Values: []int{-1}})
	tells(t, " resource a[b]:1,0x1f,-2147483648", api.Decl{Kind: api.DeclResource, At: 1, Name: "a", Base: "b", Values: []int{1, 31, -1 << 31}})
	tells(t, "flags f = 1", api.Decl{Kind: api.DeclFlags, Name: "f", Values: []int{1}})
	tells(t, "\nflags f = 4, 2, 4\n", api.Decl{Kind: api.DeclFlags, At: 1, Name: "f", Values: []int{4, 2, 4}})
	tells(t, "const c = 2147483648", api.Decl{Kind: api.DeclConst, Name: "c", Number: 1 << 31})
	tells(t, "const c=-5#why", api.Decl{Kind: api.DeclConst, Name: "c", Number: -5})
	tells(t, "struct s { a int8 }", api.Decl{Kind: api.DeclStruct, Name: "s", Fields: []api.Field{{Name: "a", At: 11, Type: bare(13, "int8")}}})
	tells(t, "union u{a b,c d}", api.Decl{Kind: api.DeclUnion, Name: "u", Fields: []api.Field{
		{Name: "a", At: 8, Type: bare(10, "b")}, {Name: "c", At: 12, Type: bare(14, "d")},
	}})
	tells(t, "call f(-7)()", api.Decl{Kind: api.DeclCall, Name: "f", Number: -7})
	tells(t, "call f(0)()r", api.Decl{Kind: api.DeclCall, Name: "f", Ret: "r"})
	tells(t, "const a = 1\nconst a = 2\n\n\tconst b = 3",
		api.Decl{Kind: api.DeclConst, Name: "a", Number: 1},
		api.Decl{Kind: api.DeclConst, At: 12, Name: "a", Number: 2},
		api.Decl{Kind: api.DeclConst, At: 26, Name: "b", Number: 3})
}

// TestWordsAreNames: the words of the grammar may be names, too.
func TestWordsAreNames(t *testing.T) {
	tells(t, "struct struct { call flags, const union }", api.Decl{Kind: api.DeclStruct, Name: "struct", Fields: []api.Field{
		{Name: "call", At: 16, Type: bare(21, "flags")}, {Name: "const", At: 28, Type: bare(34, "union")},
	}})
	tells(t, "call resource(1)() call", api.Decl{Kind: api.DeclCall, Name: "resource", Number: 1, Ret: "call"})
}

// typed asks for the type of a field that is written so.
func typed(t *testing.T, s string, want api.Expr) {
	t.Helper()
	const ahead = "union u { a "
	l, e := parse.Parse(ahead + s + "}")
	if e != nil || len(l) != 1 || len(l[0].Fields) != 1 {
		t.Fatalf("%q: %+v, %v", s, l, e)
	}
	got := l[0].Fields[0].Type
	if got.At != len(ahead) {
		t.Errorf("%q: at %d", s, got.At)
	}
	if got = trimExpr(placelessExpr(got)); !reflect.DeepEqual(got, trimExpr(want)) {
		t.Errorf("%q: %+v, want %+v", s, got, want)
	}
}

func TestTypes(t *testing.T) {
	x, y := bare(0, "x"), bare(0, "y")
	some := api.Expr{Name: "x", Values: []int{1}}
	for s, want := range map[string]api.Expr{
		"t":                          {Name: "t"},
		"ptr":                        {Name: "ptr"},
		"t[1]":                       {Name: "t", Values: []int{1}},
		"t[1,2]":                     {Name: "t", Values: []int{1, 2}},
		"t[1:2]":                     {Name: "t", Values: []int{1, 2}},
		"t[1:2, 3, 4 : 5]":           {Name: "t", Values: []int{1, 2, 3, 4, 5}},
		`t["", "a b"]`:               {Name: "t", Texts: []string{"", "a b"}},
		"t[x]":                       {Name: "t", Names: []string{"x"}},
		"t[x, y]":                    {Name: "t", Names: []string{"x", "y"}},
		"t[x[1]]":                    {Name: "t", Types: []api.Expr{some}},
		`t[1, x, "a", x[1], y, 2:3]`: {Name: "t", Types: []api.Expr{some}, Names: []string{"x", "y"}, Values: []int{1, 2, 3}, Texts: []string{"a"}},
		// The second part of a pointer is a type.
		"ptr[x]":          {Name: "ptr", Names: []string{"x"}},
		"ptr[x, y]":       {Name: "ptr", Names: []string{"x"}, Types: []api.Expr{y}},
		"ptr[x[1]]":       {Name: "ptr", Types: []api.Expr{some}},
		"ptr[x[1], y]":    {Name: "ptr", Types: []api.Expr{some, y}},
		"ptr[y, x[1]]":    {Name: "ptr", Names: []string{"y"}, Types: []api.Expr{some}},
		"ptr[x, y, x, y]": {Name: "ptr", Names: []string{"x", "x", "y"}, Types: []api.Expr{y}},
		"ptr[5, x]":       {Name: "ptr", Values: []int{5}, Types: []api.Expr{x}},
		"ptr[5:6, x, y]":  {Name: "ptr", Values: []int{5, 6}, Types: []api.Expr{x}, Names: []string{"y"}},
		`ptr["in", x, 5]`: {Name: "ptr", Values: []int{5}, Types: []api.Expr{x}, Texts: []string{"in"}},
		"ptr[x, 5, y]":    {Name: "ptr", Values: []int{5}, Names: []string{"x", "y"}},
		// So is the first one of an array.
		"array[x]":         {Name: "array", Types: []api.Expr{x}},
		"array[x, 4]":      {Name: "array", Types: []api.Expr{x}, Values: []int{4}},
		"array[x, 2:4]":    {Name: "array", Types: []api.Expr{x}, Values: []int{2, 4}},
		"array[x[1], 4]":   {Name: "array", Types: []api.Expr{some}, Values: []int{4}},
		"array[x, y]":      {Name: "array", Types: []api.Expr{x}, Names: []string{"y"}},
		"array[x, x[1]]":   {Name: "array", Types: []api.Expr{x, some}},
		"array[4, x]":      {Name: "array", Names: []string{"x"}, Values: []int{4}},
		`array["x", 4, y]`: {Name: "array", Names: []string{"y"}, Values: []int{4}, Texts: []string{"x"}},
		// What counts is the type's own name.
		"array[ptr, 1]":       {Name: "array", Types: []api.Expr{bare(0, "ptr")}, Values: []int{1}},
		"t[array, ptr]":       {Name: "t", Names: []string{"array", "ptr"}},
		"array[t[x, y], 1]":   {Name: "array", Types: []api.Expr{{Name: "t", Names: []string{"x", "y"}}}, Values: []int{1}},
		"t[array[x], y]":      {Name: "t", Types: []api.Expr{{Name: "array", Types: []api.Expr{x}}}, Names: []string{"y"}},
		"ptr[in, ptr[in, x]]": {Name: "ptr", Names: []string{"in"}, Types: []api.Expr{{Name: "ptr", Names: []string{"in"}, Types: []api.Expr{x}}}},
	} {
		typed(t, s, want)
	}
}

func TestPlaces(t *testing.T) {
	l := read(t, "\n  call f(1)( a t[ x[1], ptr[in,array[y]] ] ) # c\n\nconst c = 1")
	if l[0].At != 3 || l[1].At != 51 {
		t.Errorf("declarations at %d, %d", l[0].At, l[1].At)
	}
	f := l[0].Fields[0]
	if f.At != 14 || f.Type.At != 16 {
		t.Errorf("a field at %d, its type at %d", f.At, f.Type.At)
	}
	x, p := f.Type.Types[0], f.Type.Types[1]
	if x.At != 19 || p.At != 25 || p.Types[0].At != 32 || p.Types[0].Types[0].At != 38 {
		t.Errorf("types at %d, %d, %d, %d", x.At, p.At, p.Types[0].At, p.Types[0].Types[0].At)
	}
}

// TestLines: where lines' ends may stand, any number of them.
func TestLines(t *testing.T) {
	for s, same := range map[string]string{
		"resource a[b]: 1,\n2,\n\n 3":                        "resource a[b]: 1,2,3",
		"flags a = 1, # c\n\n2":                              "flags a = 1,2",
		"struct s {\n\n a b,\n\n c d\n\n}\n":                 "struct s {a b, c d}",
		"union u {\n a b}":                                   "union u {a b}",
		"union u { a b\n}":                                   "union u {a b}",
		"call f(1)(\n\n)":                                    "call f(1)()",
		"call f(1)(\na b\n)c\n":                              "call f(1)(a b)c",
		"call f(1)(a ptr[in,\n\nx[1,\n2]],\nb c)":            "call f(1)(a ptr[in,x[1,2]],b c)",
		"call f(1)(a t[1:2,\n\"x\",\n\n\n3])\n\nconst c=1\n": "call f(1)(a t[1:2,\"x\",3])\nconst c=1",
	} {
		want := placeless(read(t, same))
		if got := placeless(read(t, s)); !reflect.DeepEqual(got, want) {
			t.Errorf("%q: %+v, want %+v", s, got, want)
		}
	}
}

// TestLinesElsewhere: at all other places within a declaration a line's end is one token too many; the fault may come behind it, where it could have been ahead of an end of fields.
func TestLinesElsewhere(t *testing.T) {
	for s, at := range map[string]int{
		"resource\na[b]: 1": 8, "resource a\n[b]: 1": 10, "resource a[\nb]: 1": 11, "resource a[b\n]: 1": 12, "resource a[b]\n: 1": 13, "resource a[b]:\n1": 14, "resource a[b]: 1\n,2": 17,
		"flags\na = 1": 5, "flags a\n= 1": 7, "flags a =\n1": 9, "flags a = 1\n, 2": 12,
		"const\na = 1": 5, "const a\n= 1": 7, "const a =\n1": 9,
		"struct\ns {a b}": 6, "struct s\n{a b}": 8, "struct s {a\nb}": 11, "struct s {a b\n, c d}": 14, "struct s {a b\nc d}": 14, "struct s {a b\n[1]}": 14,
		"call\nf(1)()": 4, "call f\n(1)()": 6, "call f(\n1)()": 7, "call f(1\n)()": 8, "call f(1)\n()": 9, "call f(1)(a\nb)": 11, "call f(1)(a b\n, c d)": 14, "call f(1)()\nc": 12,
		"union u {a b[\n1]}": 13, "union u {a b[1\n]}": 14, "union u {a b[1\n:2]}": 14, "union u {a b[1:\n2]}": 15, "union u {a b[c\n]}": 14, "union u {a b[c\n[1]]}": 14, "union u {a b[c\n,1]}": 14, "union u {a b[\"\"\n]}": 15,
	} {
		refuses(t, s, at, api.ErrToken)
	}
}
