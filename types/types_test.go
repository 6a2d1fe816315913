package types_test

import (
	"errors"
	"fmt"
	"reflect"
	"strings"
	"testing"

	"dredger/api"
	"dredger/parse"
	"dredger/types"
)

// numbers is a source of the same numbers each time.
type numbers uint64

func (n *numbers) next(below int) int {
	*n = *n*6364136223846793005 + 1442695040888963407
	return int(uint64(*n)>>33) % below
}

// pick is one of a list.
func pick[T any](n *numbers, list ...T) T { return list[n.next(len(list))] }

// trim is a list whose emptiness is nil, each item by a function.
func trim[T any](l []T, item func(T) T) []T {
	var out []T
	for _, x := range l {
		out = append(out, item(x))
	}
	return out
}

func as[T any](x T) T { return x }

// trimTable is a table all of whose empty lists are nil.
func trimTable(t api.Table) api.Table {
	t.Types = trim(t.Types, func(x api.Type) api.Type {
		x.Values, x.Texts, x.Elems, x.Names = trim(x.Values, as), trim(x.Texts, as), trim(x.Elems, as), trim(x.Names, as)
		return x
	})
	t.Calls = trim(t.Calls, func(c api.Call) api.Call {
		c.Args, c.Names = trim(c.Args, as), trim(c.Names, as)
		return c
	})
	return t
}

func sameTable(a, b api.Table) bool { return reflect.DeepEqual(trimTable(a), trimTable(b)) }

// compile asks for the table of a description that has no fault.
func compile(t *testing.T, s string) api.Table {
	t.Helper()
	x, e := types.Compile(s)
	if e != nil {
		t.Fatalf("%q: %v", s, e)
	}
	return x
}

// declarations is those of a description that may have faults of types only.
func declarations(t *testing.T, s string) []api.Decl {
	t.Helper()
	l, e := parse.Parse(s)
	if e != nil {
		t.Fatalf("%q: %v", s, e)
	}
	return l
}

// isFault asks for a fault and an empty table: a value, with that place, in which errors.Is finds that number alone.
func isFault(t *testing.T, of string, x api.Table, e error, at int, why api.Errno) {
	t.Helper()
	if f, ok := e.(api.Fault); !ok || f != (api.Fault{At: at, Why: why}) || !sameTable(x, api.Table{}) {
		t.Errorf("%s: %+v, %v, want %v at %d", of, x, e, why, at)
		return
	}
	var f api.Fault
	if !errors.As(e, &f) || f.At != at {
		t.Errorf("%s: errors.As finds %v", of, f)
	}
	for n := range api.Errno(240) {
		if errors.Is(e, n) != (n == why) {
			t.Errorf("%s: errors.Is of %v is %v", of, n, errors.Is(e, n))
		}
	}
}

// refuses asks for a description's fault, of both calls: At the declaration's place, and At its byte.
func refuses(t *testing.T, s string, at int, why api.Errno) {
	t.Helper()
	l := declarations(t, s)
	x, e := types.Check(l)
	isFault(t, fmt.Sprintf("%q", s), x, e, at, why)
	x, e = types.Compile(s)
	isFault(t, fmt.Sprintf("%q, compiled", s), x, e, l[at].At, why)
}

// declines asks for the fault of declarations made by hand.
func declines(t *testing.T, at int, why api.Errno, l ...api.Decl) {
	t.Helper()
	x, e := types.Check(l)
	isFault(t, fmt.Sprintf("%+v", l), x, e, at, why)
}

// takes asks for no fault.
func takes(t *testing.T, l ...api.Decl) {
	t.Helper()
	if _, e := types.Check(l); e != nil {
		t.Errorf("%+v: %v", l, e)
	}
}

// TestExample: of the chapter.
func TestExample(t *testing.T) {
	got := compile(t, "call f(3)(a int8[1, 4])")
	want := api.Table{
		Types: []api.Type{{Kind: api.TypeInt, Size: 1, Lo: 1, Hi: 4}},
		Calls: []api.Call{{Name: "f", Number: 3, Args: []int{0}, Names: []string{"a"}}},
	}
	if !sameTable(got, want) {
		t.Errorf("%+v, want %+v", got, want)
	}
}

// known is declarations that types may name.
const known = "resource fd[int32]: -1, 3\nresource wide[int64]: 0\nflags bits = 1, 4, 4\nconst five = 5\nconst less = -2147483648\nstruct pair { x int8, y fd }\nunion either { x int16, y pair }\n"

// lastType asks for the last type that an argument as it is written makes, and for how many types.
func lastType(t *testing.T, argument string, count int, want api.Type) {
	t.Helper()
	x := compile(t, known+"call f(1)(a "+argument+")")
	if len(x.Types) != count {
		t.Errorf("%s: %d types, want %d", argument, len(x.Types), count)
	}
	got := trimTable(x).Types[len(x.Types)-1]
	want = trimTable(api.Table{Types: []api.Type{want}}).Types[0]
	if !reflect.DeepEqual(got, want) {
		t.Errorf("%s: %+v, want %+v", argument, got, want)
	}
}

// TestArguments: each row of the chapter that may be an argument.
func TestArguments(t *testing.T) {
	for s, want := range map[string]api.Type{
		"int8":                         {Kind: api.TypeInt, Size: 1, Hi: 255},
		"int16":                        {Kind: api.TypeInt, Size: 2, Hi: 65535},
		"int32":                        {Kind: api.TypeInt, Size: 4, Hi: 1 << 31},
		"int64":                        {Kind: api.TypeInt, Size: 8, Hi: 1 << 31},
		"int8[0, 255]":                 {Kind: api.TypeInt, Size: 1, Hi: 255},
		"int8[7:7]":                    {Kind: api.TypeInt, Size: 1, Lo: 7, Hi: 7},
		"int16[255, 65535]":            {Kind: api.TypeInt, Size: 2, Lo: 255, Hi: 65535},
		"int32[0, 0]":                  {Kind: api.TypeInt, Size: 4},
		"int32[3, 2147483648]":         {Kind: api.TypeInt, Size: 4, Lo: 3, Hi: 1 << 31},
		"int64[2147483648:0x80000000]": {Kind: api.TypeInt, Size: 8, Lo: 1 << 31, Hi: 1 << 31},
		"const[7, int8]":               {Kind: api.TypeConst, Size: 1, Lo: 7},
		"const[-2147483648, int8]":     {Kind: api.TypeConst, Size: 1, Lo: -1 << 31},
		"const[2147483648, int16]":     {Kind: api.TypeConst, Size: 2, Lo: 1 << 31},
		"const[five, int32]":           {Kind: api.TypeConst, Size: 4, Lo: 5},
		"const[less, int64]":           {Kind: api.TypeConst, Size: 8, Lo: -1 << 31},
		"const[int8, 7]":               {Kind: api.TypeConst, Size: 1, Lo: 7},
		"flags[bits, int8]":            {Kind: api.TypeFlags, Size: 1, Values: []int{1, 4, 4}},
		"flags[bits, int64]":           {Kind: api.TypeFlags, Size: 8, Values: []int{1, 4, 4}},
		"fd":                           {Kind: api.TypeRes, Size: 4, Of: "fd", Values: []int{-1, 3}},
		"wide":                         {Kind: api.TypeRes, Size: 8, Of: "wide", Values: []int{0}},
	} {
		lastType(t, s, 1, want)
	}
	for s, dir := range map[string]int{"in": api.DirIn, "out": api.DirOut, "inout": api.DirInOut} {
		lastType(t, "ptr["+s+", int8]", 2, api.Type{Kind: api.TypePtr, Size: 8, Dir: dir, Elems: []int{0}})
	}
	lastType(t, "ptr[in, pair]", 4, api.Type{Kind: api.TypePtr, Size: 8, Dir: api.DirIn, Elems: []int{2}})
}

// TestInPointers: the other rows, and those above, ahead of a pointer to them.
func TestInPointers(t *testing.T) {
	longest := strings.Repeat("p", api.MaxPath)
	for s, want := range map[string]api.Type{
		"int8":                     {Kind: api.TypeInt, Size: 1, Hi: 255},
		"fd":                       {Kind: api.TypeRes, Size: 4, Of: "fd", Values: []int{-1, 3}},
		"const[five, int8]":        {Kind: api.TypeConst, Size: 1, Lo: 5},
		"flags[bits, int16]":       {Kind: api.TypeFlags, Size: 2, Values: []int{1, 4, 4}},
		"array[int8, 0]":           {Kind: api.TypeArray, Elems: []int{0}},
		"array[int8, 8]":           {Kind: api.TypeArray, Lo: 8, Hi: 8, Elems: []int{0}},
		"array[fd, 0, 8]":          {Kind: api.TypeArray, Hi: 8, Elems: []int{0}},
		"array[array[fd, 2], 1:3]": {Kind: api.TypeArray, Lo: 1, Hi: 3, Elems: []int{1}},
		"array[data[1], 3:3]":      {Kind: api.TypeArray, Lo: 3, Hi: 3, Elems: []int{0}},
		"pair":                     {Kind: api.TypeStruct, Of: "pair", Elems: []int{0, 1}, Names: []string{"x", "y"}},
		"either":                   {Kind: api.TypeUnion, Of: "either", Elems: []int{0, 3}, Names: []string{"x", "y"}},
		`text[""]`:                 {Kind: api.TypeText, Texts: []string{""}},
		`text["/a", "/a", "b c"]`:  {Kind: api.TypeText, Texts: []string{"/a", "/a", "b c"}},
		`text["` + longest + `"]`:  {Kind: api.TypeText, Texts: []string{longest}},
		"data[0]":                  {Kind: api.TypeData},
		"data[64]":                 {Kind: api.TypeData, Lo: 64, Hi: 64},
		"data[0:64]":               {Kind: api.TypeData, Hi: 64},
		"data[3, 5]":               {Kind: api.TypeData, Lo: 3, Hi: 5},
	} {
		x := compile(t, known+"call f(1)(a ptr[in, "+s+"])")
		last := len(x.Types) - 1
		if got := trimTable(x).Types[last-1]; !reflect.DeepEqual(got, trimTable(api.Table{Types: []api.Type{want}}).Types[0]) {
			t.Errorf("%s: %+v, want %+v", s, got, want)
		}
		if got := x.Types[last]; got.Kind != api.TypePtr || len(got.Elems) != 1 || got.Elems[0] != last-1 {
			t.Errorf("%s: the pointer is %+v", s, got)
		}
	}
}

// TestTable: the order of types, of which each place makes its own, and calls.
func TestTable(t *testing.T) {
	got := compile(t, "call late(63)(a fd) fd\nstruct s { n len[b, int16], b array[u, 2] }\nunion u { x int8, y text[\"t\"] }\ncall in(0)(n len[p, int32], p ptr[out, s], q ptr[in, s])\nresource fd[int32]: -1\ncall none(7)()\nflags idle = 1\n")
	unit := func(from int) []api.Type {
		return []api.Type{
			{Kind: api.TypeLen, Size: 2, Of: "b"},
			{Kind: api.TypeInt, Size: 1, Hi: 255},
			{Kind: api.TypeText, Texts: []string{"t"}},
			{Kind: api.TypeUnion, Of: "u", Elems: []int{from + 1, from + 2}, Names: []string{"x", "y"}},
			{Kind: api.TypeArray, Lo: 2, Hi: 2, Elems: []int{from + 3}},
			{Kind: api.TypeStruct, Of: "s", Elems: []int{from, from + 4}, Names: []string{"n", "b"}},
		}
	}
	var want api.Table
	want.Types = append(want.Types, api.Type{Kind: api.TypeRes, Size: 4, Of: "fd", Values: []int{-1}}, api.Type{Kind: api.TypeLen, Size: 4, Of: "p"})
	want.Types = append(append(want.Types, unit(2)...), api.Type{Kind: api.TypePtr, Size: 8, Dir: api.DirOut, Elems: []int{7}})
	want.Types = append(append(want.Types, unit(9)...), api.Type{Kind: api.TypePtr, Size: 8, Dir: api.DirIn, Elems: []int{14}})
	want.Calls = []api.Call{
		{Name: "late", Number: 63, Args: []int{0}, Names: []string{"a"}, Ret: "fd"},
		{Name: "in", Args: []int{1, 8, 15}, Names: []string{"n", "p", "q"}},
		{Name: "none", Number: 7},
	}
	if !sameTable(got, want) {
		t.Errorf("%+v, want %+v", got, want)
	}
}

func TestNothing(t *testing.T) {
	for _, s := range []string{"", "\n\n", "const c = 1", "struct s { a int8 }\nflags f = 1"} {
		if x := compile(t, s); !sameTable(x, api.Table{}) {
			t.Errorf("%q: %+v", s, x)
		}
	}
	for _, l := range [][]api.Decl{nil, {}} {
		if x, e := types.Check(l); e != nil || !sameTable(x, api.Table{}) {
			t.Errorf("%v: %+v, %v", l, x, e)
		}
	}
}

// TestParseFaults: those of parse come first.
func TestParseFaults(t *testing.T) {
	for s, f := range map[string]api.Fault{
		strings.Repeat(" ", 4001):                  {At: 0, Why: api.ErrFull},
		"call f(99)() $":                           {At: 13, Why: api.ErrChar},
		"const in = 5 \"":                          {At: 13, Why: api.ErrQuote},
		"const in = 2147483649":                    {At: 11, Why: api.ErrBig},
		"const in = 5\njump":                       {At: 13, Why: api.ErrToken},
		"const in = ":                              {At: 11, Why: api.ErrToken},
		"union in { a t[t[t[t[t[t[t[t[t]]]]]]]] }": {At: 29, Why: api.ErrDeep},
	} {
		x, e := types.Compile(s)
		isFault(t, fmt.Sprintf("%.40q", s), x, e, f.At, f.Why)
	}
}

func TestFind(t *testing.T) {
	x := compile(t, "call g(1)()\ncall f(2)()\ncall in(3)()")
	for name, place := range map[string]int{"g": 0, "f": 1, "in": 2} {
		if i, ok := types.Find(x, name); i != place || !ok {
			t.Errorf("%s: %d, %v", name, i, ok)
		}
	}
	for _, name := range []string{"", "h", "F", "ff", "int8"} {
		if i, ok := types.Find(x, name); i != 0 || ok {
			t.Errorf("%q: %d, %v", name, i, ok)
		}
	}
	byHand := api.Table{Calls: []api.Call{{Name: "a", Number: -5}, {Name: "b"}, {Name: ""}, {Name: "b", Args: []int{9}}}}
	for name, place := range map[string]int{"a": 0, "b": 1, "": 2} {
		if i, ok := types.Find(byHand, name); i != place || !ok {
			t.Errorf("%q by hand: %d, %v", name, i, ok)
		}
	}
	if i, ok := types.Find(api.Table{}, ""); i != 0 || ok {
		t.Errorf("of nothing: %d, %v", i, ok)
	}
}
