package types_test

import (
	"reflect"
	"testing"

	"dredger/api"
	"dredger/types"
)

const sample = known + "call g(2)(a fd, b fd, c flags[bits, int8], d flags[bits, int8])\ncall h(3)(a ptr[in, pair], b ptr[in, pair], c ptr[out, text[\"a\", \"b\", \"c\"]], d ptr[in, either], e ptr[inout, array[pair, 1, 3]]) fd"

// scrawl writes over all of a list, its spare room too.
func scrawl[T any](l []T, with T) {
	l = l[:cap(l)]
	for i := range l {
		l[i] = with
	}
}

// lists is functions that write over a table's lists, one each.
func lists(t api.Table) (all []func()) {
	for _, x := range t.Types {
		all = append(all, func() { scrawl(x.Values, -99) }, func() { scrawl(x.Texts, "!") }, func() { scrawl(x.Elems, -99) }, func() { scrawl(x.Names, "!") })
	}
	for _, c := range t.Calls {
		all = append(all, func() { scrawl(c.Args, -99) }, func() { scrawl(c.Names, "!") })
	}
	return append(all, func() { scrawl(t.Types, api.Type{Of: "!"}) }, func() { scrawl(t.Calls, api.Call{Name: "!"}) })
}

// TestListsAreApart: what is done to one list of an answer, its spare room too, neither another list nor a declaration nor a later answer can tell.
func TestListsAreApart(t *testing.T) {
	decls, untouched := declarations(t, sample), declarations(t, sample)
	check := func() api.Table {
		x, e := types.Check(decls)
		if e != nil {
			t.Fatal(e)
		}
		return x
	}
	want := check()
	for k := range lists(want) {
		x := check()
		lists(x)[k]()
		spoilt := trimTable(want)
		lists(spoilt)[k]()
		if !sameTable(x, spoilt) {
			t.Errorf("list %d: %+v, want %+v", k, x, spoilt)
		}
		if !reflect.DeepEqual(decls, untouched) {
			t.Fatalf("list %d: the declarations are %+v, they were %+v", k, decls, untouched)
		}
		if again := check(); !sameTable(again, want) {
			t.Fatalf("list %d: then %+v, want %+v", k, again, want)
		}
	}
}

// TestTableIsKept: what is done to declarations later, a table can't tell.
func TestTableIsKept(t *testing.T) {
	decls := declarations(t, sample)
	x, _ := types.Check(decls)
	want := compile(t, sample)
	for _, d := range decls {
		scrawl(d.Values, -99)
		for _, f := range d.Fields {
			for _, e := range f.Type.Types {
				scrawl(e.Texts, "!")
			}
			scrawl(f.Type.Texts, "!")
			scrawl(f.Type.Names, "!")
		}
		scrawl(d.Fields, api.Field{Name: "!"})
	}
	scrawl(decls, api.Decl{Name: "!"})
	if !sameTable(x, want) {
		t.Errorf("%+v, want %+v", x, want)
	}
}

// TestRoomIsLeft: neither the room behind declarations nor that behind their lists is looked at, or changed.
func TestRoomIsLeft(t *testing.T) {
	decls := append(declarations(t, sample), api.Decl{Kind: 99})
	for i := range decls {
		d := &decls[i]
		d.Values = append(d.Values, 1<<40)[:len(d.Values)]
		d.Fields = append(d.Fields, api.Field{Name: "a", Type: api.Expr{Name: "zz"}})[:len(d.Fields)]
	}
	x, e := types.Check(decls[:len(decls)-1])
	if e != nil || !sameTable(x, compile(t, sample)) {
		t.Errorf("%+v, %v", x, e)
	}
	if decls[len(decls)-1].Kind != 99 {
		t.Errorf("behind the declarations: %+v", decls[len(decls)-1])
	}
	for _, d := range decls {
		if room := d.Values[:len(d.Values)+1]; room[len(d.Values)] != 1<<40 {
			t.Errorf("behind %v: %d", d.Values, room[len(d.Values)])
		}
		if room := d.Fields[:len(d.Fields)+1]; room[len(d.Fields)].Type.Name != "zz" {
			t.Errorf("behind %v: %v", d.Fields, room[len(d.Fields)])
		}
	}
}

// TestOrderOfCalls: a fault leaves nothing behind that a later call could tell.
func TestOrderOfCalls(t *testing.T) {
	want := compile(t, sample)
	for range 3 {
		refuses(t, sample+"\nconst fd = 1", 9, api.ErrTwice)
		refuses(t, "struct s { a s }", 0, api.ErrLoop)
		if x := compile(t, sample); !sameTable(x, want) {
			t.Errorf("%+v, want %+v", x, want)
		}
	}
}
