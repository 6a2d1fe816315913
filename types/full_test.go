package types_test

import (
	"fmt"
	"strings"
	"testing"

	"dredger/api"
	"dredger/types"
)

// wide is a struct of so many fields.
func wide(name string, fields int) api.Decl {
	d := api.Decl{Kind: api.DeclStruct, Name: name}
	for i := range fields {
		d.Fields = append(d.Fields, api.Field{Name: fmt.Sprintf("f%d", i), Type: api.Expr{Name: "int8"}})
	}
	return d
}

// pointersTo is a call whose arguments are pointers to types.
func pointersTo(elems ...api.Expr) api.Decl {
	d := api.Decl{Kind: api.DeclCall, Name: "f"}
	for i, e := range elems {
		d.Fields = append(d.Fields, api.Field{Name: fmt.Sprintf("p%d", i), Type: api.Expr{Name: "ptr", Names: []string{"in"}, Types: []api.Expr{e}}})
	}
	return d
}

func named(name string) api.Expr { return api.Expr{Name: name} }

func arrayOf(e api.Expr, counts ...int) api.Expr {
	return api.Expr{Name: "array", Types: []api.Expr{e}, Values: counts}
}

// TestMaxTypes: pointers to structs of 100 fields make 102 types each.
func TestMaxTypes(t *testing.T) {
	call := pointersTo(named("s"), named("s"), named("s"), named("t"))
	x, e := types.Check([]api.Decl{call, wide("s", 100), wide("t", 92)})
	if e != nil || len(x.Types) != api.MaxTypes || x.Types[399].Elems[0] != 398 || x.Calls[0].Args[3] != 399 {
		t.Errorf("%d types, %v", len(x.Types), e)
	}
	declines(t, 0, api.ErrFull, call, wide("s", 100), wide("t", 93))
	declines(t, 0, api.ErrFull, wide("s", 100), wide("t", 93), call)
	one := api.Decl{Kind: api.DeclCall, Name: "g", Number: 1, Fields: []api.Field{{Name: "a", Type: named("int8")}}}
	declines(t, 0, api.ErrFull, call, wide("s", 100), wide("t", 92), one)
	// Those that no call uses do not count.
	takes(t, wide("s", 500), wide("t", 92))
	takes(t, call, wide("s", 100), wide("t", 92), wide("u", 500))
	// Of a description: the byte of the first declaration.
	s := " \n const c = 1\nstruct s { a int8, b int8, c int8, d int8, e int8, f int8, g int8 }\n"
	for i := range 16 {
		s += fmt.Sprintf("call f%d(%d)(a ptr[in, s], b ptr[in, s], c ptr[in, s])\n", i, i)
	}
	x, e = types.Compile(s)
	isFault(t, "a description", x, e, 3, api.ErrFull)
}

// TestGreat: a type is at most 300 great.
func TestGreat(t *testing.T) {
	fits := func(holds bool, elem api.Expr, l ...api.Decl) {
		t.Helper()
		l = append(l, pointersTo(elem))
		x, e := types.Check(l)
		if holds != (e == nil) {
			t.Errorf("%+v: %v", elem, e)
		}
		if !holds {
			isFault(t, fmt.Sprintf("%+v", elem), x, e, 0, api.ErrFull)
		}
	}
	// A pointer is 1 more than a struct, which is 1 more than its fields.
	fits(true, named("s"), wide("s", 298))
	fits(false, named("s"), wide("s", 299))
	fits(false, named("s"), wide("s", 300))
	// Of an array the greatest count tells.
	fits(true, arrayOf(named("s"), 0, 2), wide("s", 148))
	fits(false, arrayOf(named("s"), 0, 2), wide("s", 149))
	fits(true, arrayOf(named("s"), 1, 8), wide("s", 36))
	fits(false, arrayOf(named("s"), 1, 8), wide("s", 37))
	fits(true, arrayOf(named("s"), 2), wide("s", 148))
	fits(false, arrayOf(named("s"), 2), wide("s", 149))
	fits(true, arrayOf(arrayOf(named("int8"), 8), 8))
	fits(true, arrayOf(arrayOf(arrayOf(named("int8"), 8), 8), 4))
	fits(false, arrayOf(arrayOf(arrayOf(named("int8"), 8), 8), 5))
	// An array of none is 1, but what it is made of stands in the table.
	fits(true, arrayOf(named("s"), 0), wide("s", 299))
	fits(false, arrayOf(named("s"), 0), wide("s", 300))
	fits(true, arrayOf(arrayOf(named("s"), 0), 8), wide("s", 299))
	// Of a union the greatest part tells, of a struct the sum.
	parts := func(kind int) api.Decl {
		return api.Decl{Kind: kind, Name: "u", Fields: []api.Field{{Name: "a", Type: named("s")}, {Name: "b", Type: named("t")}, {Name: "c", Type: named("int8")}}}
	}
	fits(true, named("u"), parts(api.DeclUnion), wide("s", 297), wide("t", 90))
	fits(true, named("u"), parts(api.DeclUnion), wide("s", 90), wide("t", 297))
	fits(false, named("u"), parts(api.DeclUnion), wide("s", 90), wide("t", 298))
	fits(true, named("u"), parts(api.DeclStruct), wide("s", 100), wide("t", 195))
	fits(false, named("u"), parts(api.DeclStruct), wide("s", 100), wide("t", 196))
	// Texts, data, lengths, resources are 1, whatever they hold.
	plain := api.Decl{Kind: api.DeclStruct, Name: "s", Fields: []api.Field{
		{Name: "a", Type: api.Expr{Name: "data", Values: []int{64}}}, {Name: "b", Type: api.Expr{Name: "text", Texts: []string{"a", "b", "c"}}},
		{Name: "c", Type: api.Expr{Name: "len", Names: []string{"a", "int64"}}}, {Name: "d", Type: named("r")}, {Name: "e", Type: api.Expr{Name: "flags", Names: []string{"g", "int64"}}}, {Name: "f", Type: api.Expr{Name: "const", Names: []string{"int64"}, Values: []int{9}}},
	}}
	r, g := api.Decl{Kind: api.DeclResource, Name: "r", Base: "int64", Values: []int{1, 2, 3}}, api.Decl{Kind: api.DeclFlags, Name: "g", Values: []int{1, 2, 3}}
	fits(true, arrayOf(arrayOf(named("s"), 6), 6), plain, r, g)
	fits(true, arrayOf(arrayOf(named("s"), 7), 5), plain, r, g)
	fits(true, arrayOf(arrayOf(named("s"), 5), 8), plain, r, g)
	fits(false, arrayOf(arrayOf(named("s"), 7), 6), plain, r, g)
	// What no call uses may be too great.
	takes(t, wide("s", 400), api.Decl{Kind: api.DeclUnion, Name: "u", Fields: []api.Field{{Name: "a", Type: named("s")}}})
}

// TestDoubled: structs that hold two of the next one each, over which there are far too many types to make.
func TestDoubled(t *testing.T) {
	var b strings.Builder
	b.WriteString("call f(1)(a ptr[in, array[s0, 0]])\n")
	for i := range 60 {
		fmt.Fprintf(&b, "struct s%d { a s%d, b s%d }\n", i, i+1, i+1)
	}
	b.WriteString("struct s60 { a int8 }\n")
	refuses(t, b.String(), 0, api.ErrFull)
	compile(t, strings.Replace(b.String(), "s0, 0", "int8, 0", 1))
}

// TestFullComesLast: behind all other faults, wherever these stand.
func TestFullComesLast(t *testing.T) {
	call := pointersTo(named("s"))
	wrong := api.Decl{Kind: api.DeclStruct, Name: "w", Fields: []api.Field{{Name: "a", Type: named("zz")}}}
	declines(t, 0, api.ErrFull, call, wide("s", 500))
	declines(t, 2, api.ErrName, call, wide("s", 500), wrong)
	wrong.Fields[0].Type.Name = "w"
	declines(t, 2, api.ErrLoop, call, wide("s", 500), wrong)
}
