package types_test

import (
	"fmt"
	"math"
	"strings"
	"testing"

	"dredger/api"
	"dredger/types"
)

const (
	most  = 1 << 31
	least = -1 << 31
)

// TestKinds: kinds that are none.
func TestKinds(t *testing.T) {
	for _, kind := range []int{0, -1, 7, math.MaxInt, math.MinInt} {
		declines(t, 0, api.ErrType, api.Decl{Kind: kind, Name: "in"})
		declines(t, 1, api.ErrType, api.Decl{Kind: api.DeclConst, Name: "a"}, api.Decl{Kind: kind, Name: "a"})
	}
}

// TestReserved: words that no declaration but a call may have as its name.
func TestReserved(t *testing.T) {
	for _, word := range strings.Fields("int8 int16 int32 int64 const flags len ptr array text data in out inout") {
		for _, s := range []string{"resource %s[int8]: 1", "flags %s = 1", "const %s = 1", "struct %s { a int8 }", "union %s { a int8 }"} {
			refuses(t, "const c = 1\n"+fmt.Sprintf(s, word), 1, api.ErrTwice)
		}
		compile(t, "call "+word+"(1)("+word+" int8)")
		compile(t, "struct s { "+word+" int8 }")
	}
	for _, word := range strings.Fields("int int1 int128 resource struct union call ints fd") {
		compile(t, "const "+word+" = 1")
	}
}

// TestTwice: names of declarations, of calls, calls' numbers, names of fields.
func TestTwice(t *testing.T) {
	all := []string{"resource x[int8]: 1", "flags x = 1", "const x = 1", "struct x { a int8 }", "union x { a int8 }"}
	for _, a := range all {
		for _, b := range all {
			refuses(t, "\n"+a+"\nconst y = 1\n\n "+b, 2, api.ErrTwice)
		}
		compile(t, a+"\ncall x(1)()")
		compile(t, "call x(1)()\n"+a)
	}
	refuses(t, "call f(1)()\ncall g(2)()\ncall f(3)()", 2, api.ErrTwice)
	refuses(t, "call f(1)()\ncall g(2)()\ncall h(1)()", 2, api.ErrTwice)
	for _, s := range []string{"struct s { %s }", "union s { %s }", "call s(1)(%s)"} {
		refuses(t, fmt.Sprintf(s, "a int8, b int8, a int16"), 0, api.ErrTwice)
		refuses(t, fmt.Sprintf(s, "a int8, a zz"), 0, api.ErrTwice)
		refuses(t, fmt.Sprintf(s, "b zz, a int8, a int8"), 0, api.ErrTwice)
		compile(t, fmt.Sprintf(s, "a int8, b int8, s int16"))
	}
}

func TestNumbersOfCalls(t *testing.T) {
	for _, n := range []int{0, 1, 62, 63} {
		takes(t, api.Decl{Kind: api.DeclCall, Name: "f", Number: n})
	}
	for _, n := range []int{-1, 64, most, math.MaxInt, math.MinInt} {
		declines(t, 0, api.ErrValue, api.Decl{Kind: api.DeclCall, Name: "f", Number: n})
	}
	refuses(t, "call f(64)()", 0, api.ErrValue)
	refuses(t, "call f(-1)()", 0, api.ErrValue)
	// As many as there are numbers.
	var all strings.Builder
	for n := range 64 {
		fmt.Fprintf(&all, "call f%d(%d)(a int8)\n", n, n)
	}
	if x := compile(t, all.String()); len(x.Calls) != 64 || len(x.Types) != 64 {
		t.Errorf("%d calls of %d types", len(x.Calls), len(x.Types))
	}
}

// TestValues: of resources, flags and consts.
func TestValues(t *testing.T) {
	resource := func(v ...int) api.Decl {
		return api.Decl{Kind: api.DeclResource, Name: "x", Base: "int8", Values: v}
	}
	flags := func(v ...int) api.Decl { return api.Decl{Kind: api.DeclFlags, Name: "x", Values: v} }
	constant := func(n int) api.Decl { return api.Decl{Kind: api.DeclConst, Name: "x", Number: n} }
	takes(t, resource(0, least, most, 0))
	takes(t, flags(0, most, 3, 3))
	takes(t, constant(least))
	takes(t, constant(most))
	for _, n := range []int{least - 1, most + 1, math.MaxInt, math.MinInt} {
		declines(t, 0, api.ErrValue, resource(n))
		declines(t, 0, api.ErrValue, resource(1, 2, n))
		declines(t, 0, api.ErrValue, flags(1, n, 2))
		declines(t, 0, api.ErrValue, constant(n))
	}
	refuses(t, "flags x = 1, -1", 0, api.ErrValue)
	declines(t, 0, api.ErrEmpty, resource())
	declines(t, 0, api.ErrEmpty, flags([]int{}...))
	declines(t, 0, api.ErrEmpty, api.Decl{Kind: api.DeclStruct, Name: "x"})
	declines(t, 0, api.ErrEmpty, api.Decl{Kind: api.DeclUnion, Name: "x", Values: []int{1}})
	// What a kind has no use for is not asked.
	takes(t, api.Decl{Kind: api.DeclConst, Name: "x", Values: []int{math.MaxInt}, Base: "zz", Ret: "zz"})
	takes(t, api.Decl{Kind: api.DeclFlags, Name: "x", Values: []int{1}, Number: math.MaxInt, Fields: []api.Field{{Type: api.Expr{Name: "zz"}}}})
}

func TestBases(t *testing.T) {
	for _, base := range strings.Fields("int8 int16 int32 int64") {
		compile(t, "resource x["+base+"]: 1")
	}
	for _, base := range strings.Fields("int128 const flags len ptr array text data in y x zz") {
		refuses(t, "resource y[int8]: 1\nresource x["+base+"]: 1", 1, api.ErrType)
	}
	declines(t, 0, api.ErrType, api.Decl{Kind: api.DeclResource, Name: "x"})
}

// TestFirstRulesInOrder: of two faults of one declaration, that hang on no type, the one that comes first; and both come ahead of all that hang on types.
func TestFirstRulesInOrder(t *testing.T) {
	field := api.Field{Name: "a", Type: api.Expr{Name: "zz"}}
	two := []api.Field{field, field}
	earlier := []api.Decl{{Kind: api.DeclCall, Name: "f", Number: 1}, {Kind: api.DeclConst, Name: "x"}}
	for _, x := range []struct {
		why api.Errno
		d   api.Decl
	}{
		{api.ErrType, api.Decl{Kind: 7, Name: "x", Number: 64, Fields: two}},
		{api.ErrTwice, api.Decl{Kind: api.DeclCall, Name: "f", Number: 64}},
		{api.ErrValue, api.Decl{Kind: api.DeclCall, Name: "g", Number: 64, Fields: two}},
		{api.ErrTwice, api.Decl{Kind: api.DeclCall, Name: "g", Number: 1, Fields: []api.Field{field}}},
		{api.ErrTwice, api.Decl{Kind: api.DeclResource, Name: "x"}},
		{api.ErrTwice, api.Decl{Kind: api.DeclResource, Name: "in"}},
		{api.ErrTwice, api.Decl{Kind: api.DeclResource, Name: "y", Fields: two}},
		{api.ErrType, api.Decl{Kind: api.DeclResource, Name: "y"}},
		{api.ErrType, api.Decl{Kind: api.DeclResource, Name: "y", Base: "int", Values: []int{math.MaxInt}}},
		{api.ErrTwice, api.Decl{Kind: api.DeclFlags, Name: "x"}},
		{api.ErrTwice, api.Decl{Kind: api.DeclConst, Name: "x", Number: math.MaxInt}},
		{api.ErrTwice, api.Decl{Kind: api.DeclStruct, Name: "x"}},
		{api.ErrTwice, api.Decl{Kind: api.DeclUnion, Name: "y", Fields: two}},
	} {
		declines(t, 2, x.why, append(earlier[:2:2], x.d)...)
		wrong := api.Decl{Kind: api.DeclStruct, Name: "w", Fields: []api.Field{field}}
		declines(t, 3, x.why, wrong, earlier[0], earlier[1], x.d)
	}
	// The first declaration comes first, even with a fault that stands later in the rules.
	refuses(t, "const a = 1\nflags b = -1\nconst a = 1", 1, api.ErrValue)
}

// inEach is a type in each place where one may stand: as an argument, a struct's field, a union's, in a pointer, in an array.
func inEach(s string) [5]string {
	return [5]string{
		known + "call f(1)(a " + s + ", b int8)",
		known + "struct f { a " + s + ", b int8 }",
		known + "union f { a " + s + ", b int8 }",
		known + "call f(1)(a ptr[in, " + s + "], b int8)",
		known + "struct f { a array[" + s + ", 1], b int8 }",
	}
}

const behindKnown = 7 // the first place behind those that are known

// TestWhere: which types may stand where.
func TestWhere(t *testing.T) {
	for s, may := range map[string][5]int{
		"int8":              {1, 1, 1, 1, 1},
		"int64[1, 2]":       {1, 1, 1, 1, 1},
		"const[1, int8]":    {1, 1, 1, 1, 1},
		"flags[bits, int8]": {1, 1, 1, 1, 1},
		"fd":                {1, 1, 1, 1, 1},
		"len[b, int8]":      {1, 1, 0, 0, 0},
		"ptr[in, int8]":     {1, 0, 0, 0, 0},
		"array[int8, 1]":    {0, 1, 1, 1, 1},
		"pair":              {0, 1, 1, 1, 1},
		"either":            {0, 1, 1, 1, 1},
		"text[\"a\"]":       {0, 1, 1, 1, 1},
		"data[1]":           {0, 1, 1, 1, 1},
		// Where it stands comes ahead of its parts.
		"len":         {2, 2, 0, 0, 0},
		"len[q]":      {2, 2, 0, 0, 0},
		"ptr":         {2, 0, 0, 0, 0},
		"array[x, x]": {0, 2, 2, 2, 2},
		"pair[1]":     {0, 2, 2, 2, 2},
		"text":        {0, 2, 2, 2, 2},
		"data[99:1]":  {0, 3, 3, 3, 3},
	} {
		for i, d := range inEach(s) {
			switch may[i] {
			case 0, 2:
				refuses(t, d, behindKnown, api.ErrType)
			case 1:
				compile(t, d)
			case 3:
				refuses(t, d, behindKnown, api.ErrValue)
			}
		}
	}
}

// TestUnknown: what is no type, wherever it stands, whatever its parts are.
func TestUnknown(t *testing.T) {
	for _, s := range []string{"zz", "zz[1]", "zz[in, fd]", "int", "in", "out", "inout", "bits", "five", "bits[1, 2]", "struct", "resource", "f[1]", "a", "zz[\"a\"]"} {
		for i, d := range inEach(s) {
			if s == "f[1]" && i != 0 && i != 3 {
				continue // it is one there
			}
			refuses(t, d, behindKnown, api.ErrName)
		}
	}
}

// TestParts: another count of parts, or other ones, than a type has.
func TestParts(t *testing.T) {
	for _, s := range []string{
		"int8[1]", "int8[1, 2, 3]", "int8[1:2, 3:4]", "int16[fd]", "int16[1, fd]", "int32[\"a\"]", "int32[1, \"a\"]", "int64[int8[1, 2], 3]", "int8[1, 2, fd]", "int8[1, 2, \"a\"]", "int8[1, 2, fd[1]]",
		"const", "const[1]", "const[int8]", "const[1, 2, int8]", "const[1, 2]", "const[five]", "const[five, int8, int8]", "const[1, five]", "const[five, fd]", "const[1, five, int8]", "const[\"a\", int8]", "const[1, int8, \"a\"]", "const[1, int8[1, 2]]", "const[five, in]", "const[1, int8, fd[1]]", "const[1, int]",
		"flags", "flags[bits]", "flags[1, int8]", "flags[bits, fd]", "flags[bits, bits]", "flags[int8, bits]", "flags[bits, int8, 1]", "flags[bits, int8, int8]", "flags[bits, int8[1, 2]]", "flags[bits, \"a\"]", "flags[bits, int8, \"a\"]",
		"len", "len[b]", "len[1, int8]", "len[b, fd]", "len[b, b]", "len[int8, b]", "len[b, int8, 1]", "len[b, int8, int8]", "len[b, int8[1, 2]]", "len[b, \"a\"]",
		"fd[1]", "fd[in]", "fd[\"a\"]", "fd[fd[1]]", "wide[int64]",
		"ptr", "ptr[in]", "ptr[int8]", "ptr[in, int8, int8]", "ptr[in, int8, int8[1, 2]]", "ptr[1, int8]", "ptr[in, 1]", "ptr[fd, int8]", "ptr[int8, in]", "ptr[int8[1, 2], in]", "ptr[in, int8, 1]", "ptr[in, int8, \"a\"]", "ptr[\"in\", int8]", "ptr[inn, int8]", "ptr[const, int8]", "ptr[in, in, int8]",
	} {
		refuses(t, known+"call f(1)(a "+s+", b int8)", behindKnown, api.ErrType)
	}
	for _, s := range []string{
		"array", "array[int8]", "array[1]", "array[1, 2]", "array[1, int8]", "array[int8, 1, 2, 3]", "array[int8, fd]", "array[int8, fd, 1]", "array[int8, int8[1, 2], 3]", "array[int8, \"a\"]", "array[int8, 1, \"a\"]", "array[\"a\", 1]",
		"pair[1]", "pair[fd]", "pair[\"a\"]", "pair[pair[1]]", "either[1]", "either[x]", "either[\"a\"]",
		"text", "text[1]", "text[fd]", "text[\"a\", 1]", "text[\"a\", fd]", "text[\"a\", fd[1]]", "text[text[\"a\"]]",
		"data", "data[fd]", "data[1, 2, 3]", "data[\"a\"]", "data[1, \"a\"]", "data[1, fd]", "data[1, fd[1]]", "data[fd[1]]",
	} {
		refuses(t, known+"struct f { a "+s+" }", behindKnown, api.ErrType)
	}
}

// TestNamedInTypes: the const, or flags, that a type names.
func TestNamedInTypes(t *testing.T) {
	for _, name := range []string{"zz", "fd", "pair", "either", "a", "f", "int8", "in"} {
		refuses(t, known+"call f(1)(a const["+name+", int8])", behindKnown, api.ErrName)
		refuses(t, known+"call f(1)(a flags["+name+", int8])", behindKnown, api.ErrName)
	}
	refuses(t, known+"call f(1)(a const[bits, int8])", behindKnown, api.ErrName)
	refuses(t, known+"call f(1)(a flags[five, int8])", behindKnown, api.ErrName)
	compile(t, "call f(1)(a const[c, int8], b flags[g, int8])\nconst c = 1\nflags g = 1")
}

// TestNumbersInTypes: each limit, and what is beyond it; that comes ahead of a range without anything.
func TestNumbersInTypes(t *testing.T) {
	for name, top := range map[string]int{"int8": 255, "int16": 65535, "int32": most, "int64": most, "data": 64, "array": 8} {
		typed := func(v ...int) []api.Decl {
			e := api.Expr{Name: name, Values: v}
			if name == "array" {
				e.Types = []api.Expr{{Name: "int8"}}
			}
			return []api.Decl{{Kind: api.DeclStruct, Name: "s", Fields: []api.Field{{Name: "a", Type: e}}}}
		}
		takes(t, typed(0, top)...)
		takes(t, typed(top, top)...)
		takes(t, typed(0, 0)...)
		declines(t, 0, api.ErrEmpty, typed(1, 0)...)
		declines(t, 0, api.ErrEmpty, typed(top, top-1)...)
		for _, v := range []int{-1, top + 1, math.MaxInt, math.MinInt} {
			declines(t, 0, api.ErrValue, typed(0, v)...)
			declines(t, 0, api.ErrValue, typed(v, top)...)
			declines(t, 0, api.ErrValue, typed(v, v)...)
			if name == "data" || name == "array" {
				declines(t, 0, api.ErrValue, typed(v)...)
			}
		}
	}
	constant := func(v int) api.Decl {
		e := api.Expr{Name: "const", Values: []int{v}, Names: []string{"int8"}}
		return api.Decl{Kind: api.DeclCall, Name: "f", Fields: []api.Field{{Name: "a", Type: e}}}
	}
	takes(t, constant(least))
	takes(t, constant(most))
	for _, v := range []int{least - 1, most + 1, math.MaxInt, math.MinInt} {
		declines(t, 0, api.ErrValue, constant(v))
	}
	refuses(t, "struct s { a text[\"\", \""+strings.Repeat("p", api.MaxPath+1)+"\", \"\"] }", 0, api.ErrValue)
}

// TestLengths: a length's field.
func TestLengths(t *testing.T) {
	for _, s := range []string{"call f(1)(%s)", "struct f { %s }"} {
		compile(t, fmt.Sprintf(s, "a len[b, int8], b int8"))
		compile(t, fmt.Sprintf(s, "b int8, a len[b, int8], c len[b, int64]"))
		compile(t, "resource r[int8]: 1\n"+fmt.Sprintf(s, "len len[len$, int8], len$ r"))
		refuses(t, fmt.Sprintf(s, "a len[c, int8], b int8"), 0, api.ErrName)
		refuses(t, fmt.Sprintf(s, "a len[int8, int8], b int8"), 0, api.ErrName)
		refuses(t, fmt.Sprintf(s, "a len[a, int8], b int8"), 0, api.ErrType)
		refuses(t, fmt.Sprintf(s, "a len[b, int8], b len[c, int8], c int8"), 0, api.ErrType)
		refuses(t, fmt.Sprintf(s, "c int8, b len[c, int8], a len[b, int8]"), 0, api.ErrType)
		refuses(t, fmt.Sprintf(s, "a len[b, int8], b len"), 0, api.ErrType)
		// The fields are those of the same declaration.
		refuses(t, "struct g { x int8 }\ncall x(2)(x int8)\n"+fmt.Sprintf(s, "a len[x, int8]"), 2, api.ErrName)
	}
	refuses(t, "struct s { a zz, b int8 }\ncall f(1)(a len[zz, int8])", 0, api.ErrName)
}

// TestFieldsInOrder: field by field, each from outside in.
func TestFieldsInOrder(t *testing.T) {
	for s, why := range map[string]api.Errno{
		"a int8[4, 1], b zz":                                 api.ErrEmpty,
		"a int8, b ptr[in, int8[4, 1]], c zz":                api.ErrEmpty,
		"a ptr[in, array[int8[4, 1], 9]], b zz":              api.ErrValue,
		"a ptr[in, array[int8[4, 1], 2, 1]], b zz[1]":        api.ErrEmpty,
		"a ptr[in, array[zz, 2, 1]]":                         api.ErrEmpty,
		"a ptr[in, array[zz, 1, 2]]":                         api.ErrName,
		"a ptr[inn, zz]":                                     api.ErrType,
		"a ptr[in, array[ptr[in, zz], 1]]":                   api.ErrType,
		"a ptr[in, array[array[array[data[99], 1], 1], 9]]":  api.ErrValue,
		"a ptr[in, array[array[array[data[9,1], 1], 1], 1]]": api.ErrEmpty,
		"a len[zz, int8], b len[a, int8]":                    api.ErrName,
		"a int8, b len[a, int8], c const[zz, int8], d yy[1]": api.ErrName,
		"a int8[256, 1]":                                     api.ErrValue,
		"a int8[1, 256], b zz":                               api.ErrValue,
	} {
		refuses(t, "call f(1)("+s+")", 0, why)
	}
	// Declaration by declaration; a type's own declaration comes where it stands.
	refuses(t, "call f(1)(a ptr[in, s])\nstruct t { a zz }\nstruct s { a int8[2, 1] }", 1, api.ErrName)
	refuses(t, "call f(1)(a ptr[in, s])\nstruct s { a int8[2, 1] }\nstruct t { a zz }", 1, api.ErrEmpty)
	refuses(t, "struct s { a int8[2, 1] }\ncall f(1)(a zz)", 0, api.ErrEmpty)
	refuses(t, "call f(1)(a zz)\nstruct s { a int8[2, 1] }", 0, api.ErrName)
}

// TestCallsLast: how many arguments, and what a call makes, come behind its arguments.
func TestCallsLast(t *testing.T) {
	six := "a int8, b int8, c int8, d int8, e int8, f int8"
	compile(t, "call f(1)("+six+")")
	refuses(t, "call f(1)("+six+", g int8)", 0, api.ErrFull)
	refuses(t, "call f(1)("+six+", g zz)", 0, api.ErrName)
	refuses(t, "call f(1)("+six+", g int8) zz", 0, api.ErrFull)
	refuses(t, "call g(2)()\ncall f(1)("+six+", g int8)\ncall h(3)(a zz)", 1, api.ErrFull)
	compile(t, known+"call f(1)() fd")
	for _, ret := range []string{"zz", "bits", "five", "pair", "either", "int8", "in", "f"} {
		refuses(t, known+"call f(1)() "+ret, behindKnown, api.ErrName)
		refuses(t, known+"call f(1)(a int8[2, 1]) "+ret, behindKnown, api.ErrEmpty)
	}
	refuses(t, "call f(1)() zz\nstruct s { a int8[2, 1] }", 0, api.ErrName)
	// A struct may have more fields.
	compile(t, "struct s { "+six+", g int8, h int8 }")
}

// TestLoops: structs and unions that hold themselves.
func TestLoops(t *testing.T) {
	for s, at := range map[string]int{
		"struct s { a s }":                                    0,
		"union u { a int8, b u }":                             0,
		"struct s { a array[s, 0] }":                          0,
		"struct s { a array[array[s, 1], 1] }":                0,
		"struct s { a t }\nstruct t { a s }":                  0,
		"struct s { a t }\nunion t { b int8, a array[s, 2] }": 0,
		"struct s { a t }\nstruct t { a u }\nunion u { a s }": 0,
		// One that holds another that holds itself does not hold itself.
		"struct s { a t }\nstruct t { a t }":                                                                              1,
		"struct s { a t }\nstruct t { a u }\nunion u { a t }":                                                             1,
		"const c = 1\nstruct r { a s, b u }\nstruct s { a int8 }\nunion u { a r }":                                        1,
		"struct a { x b, y c }\nstruct b { x d }\nstruct c { x d }\nstruct d { x e }\nstruct e { x f }\nstruct f { x d }": 3,
		"struct a { x b }\nstruct b { x c, y d }\nstruct c { x int8 }\nstruct d { x c, y e }\nunion e { x int8, y d }":    3,
		"call f(1)(a ptr[in, s])\nstruct s { a s }":                                                                       1,
		"struct s { a int8 }\nstruct t { a s, b s }\nstruct v { a t, b w, c s }\nstruct w { a t, b v }":                   2,
	} {
		refuses(t, s, at, api.ErrLoop)
	}
	for _, s := range []string{
		"struct a { x b, y c }\nstruct b { x d }\nstruct c { x d, y b }\nunion d { x int8 }",
		"struct s { s int8 }\nunion u { s s, u int8 }",
		"struct s { a len[s, int8], s int8 }",
		"call s(1)(a ptr[in, s])\nstruct s { a int8 }",
	} {
		compile(t, s)
	}
	// The fields come first, and other declarations' faults in their order.
	refuses(t, "struct s { a s, b zz }", 0, api.ErrName)
	refuses(t, "struct s { a s[1] }", 0, api.ErrType)
	refuses(t, "struct s { p ptr[in, s] }", 0, api.ErrType)
	refuses(t, "struct s { a t }\nstruct t { a s, b zz }", 0, api.ErrLoop)
	refuses(t, "struct s { a t }\nstruct t { p ptr[in, s] }", 0, api.ErrLoop)
	refuses(t, "struct s { a t }\nstruct t { a zz, b t }", 1, api.ErrName)
	refuses(t, "call f(1)(a zz)\nstruct s { a s }", 0, api.ErrName)
	refuses(t, "struct s { a s }\ncall f(1)(a zz)", 0, api.ErrLoop)
}

// chain is structs each of which holds the next one; the last one holds a type.
func chain(count int, last string) []api.Decl {
	l := make([]api.Decl, count)
	for i := range l {
		next := fmt.Sprintf("s%d", i+1)
		if i == count-1 {
			next = last
		}
		l[i] = api.Decl{Kind: api.DeclStruct, Name: fmt.Sprintf("s%d", i), Fields: []api.Field{{Name: "a", Type: api.Expr{Name: next}}}}
	}
	return l
}

func TestLongChains(t *testing.T) {
	const long = 1 << 16
	takes(t, chain(long, "int8")...)
	for last, at := range map[string]int{"s0": 0, "s1": 1, "s65535": long - 1} {
		if _, e := types.Check(chain(long, last)); e != error(api.Fault{At: at, Why: api.ErrLoop}) {
			t.Errorf("back to %s: %v", last, e)
		}
	}
	call := api.Decl{Kind: api.DeclCall, Name: "f", Fields: []api.Field{{Name: "a", Type: api.Expr{Name: "ptr", Names: []string{"in"}, Types: []api.Expr{{Name: "s0"}}}}}}
	if _, e := types.Check(append(chain(long, "int8"), call)); e != error(api.Fault{Why: api.ErrFull}) {
		t.Errorf("a call of it: %v", e)
	}
}

// TestDeepTypes: types that are nested deeper than a description may have them.
func TestDeepTypes(t *testing.T) {
	deep := func(inner string) api.Expr {
		e := api.Expr{Name: inner}
		for range 1 << 16 {
			e = arrayOf(e, 1)
		}
		return e
	}
	group := func(inner string) []api.Decl {
		return []api.Decl{{Kind: api.DeclStruct, Name: "s", Fields: []api.Field{{Name: "a", Type: deep(inner)}}}}
	}
	for inner, why := range map[string]error{"int8": nil, "zz": api.Fault{Why: api.ErrName}, "ptr": api.Fault{Why: api.ErrType}, "s": api.Fault{Why: api.ErrLoop}} {
		if _, e := types.Check(group(inner)); e != why {
			t.Errorf("of %s: %v", inner, e)
		}
	}
	if _, e := types.Check([]api.Decl{pointersTo(deep("int8"))}); e != error(api.Fault{Why: api.ErrFull}) {
		t.Errorf("in a call: %v", e)
	}
}
