package parse_test

import (
	"reflect"
	"testing"

	"dredger/api"
	"dredger/parse"
)

const sample = "resource fd[int32]: -1, 0, 3\nflags f = 1, 2, 4\nstruct s { a t[x[1], y[2], z[3], in, out, inout, \"a\", \"b\", \"c\", 5, 6, 7], b int8, c int8 }\ncall f(3)(a ptr[in, array[x, 2:4]], b len[a, int8], c t[1, 2, 3]) fd\n"

// scrawl writes over all of a list, its spare room too.
func scrawl[T any](l []T, with T) {
	l = l[:cap(l)]
	for i := range l {
		l[i] = with
	}
}

// lists is functions that write over a declaration's lists, one each.
func lists(d api.Decl) (all []func()) {
	all = append(all, func() { scrawl(d.Values, -99) })
	for _, f := range d.Fields {
		all = append(all, listsOf(f.Type)...)
	}
	return append(all, func() { scrawl(d.Fields, api.Field{Name: "!"}) })
}

func listsOf(e api.Expr) (all []func()) {
	for _, x := range e.Types {
		all = append(all, listsOf(x)...)
	}
	return append(all,
		func() { scrawl(e.Names, "!") },
		func() { scrawl(e.Values, -99) },
		func() { scrawl(e.Texts, "!") },
		func() { scrawl(e.Types, api.Expr{Name: "!"}) })
}

// TestAnswersAreNew: what is done to an answer, its spare room too, no later one can tell.
func TestAnswersAreNew(t *testing.T) {
	want := read(t, sample)
	first := read(t, sample)
	for _, d := range first {
		for _, over := range lists(d) {
			over()
		}
	}
	scrawl(first, api.Decl{Name: "!"})
	if got := read(t, sample); !reflect.DeepEqual(got, want) {
		t.Errorf("%+v, want %+v", got, want)
	}
}

// TestListsAreApart: what is done to one list of an answer, its spare room too, no other one can tell.
func TestListsAreApart(t *testing.T) {
	want := trimDecls(read(t, sample))
	for i := range want {
		for k := range lists(want[i]) {
			l := read(t, sample)
			lists(l[i])[k]()
			spoilt := trimDecls(read(t, sample))
			lists(spoilt[i])[k]()
			if got := trimDecls(l); !reflect.DeepEqual(got, spoilt) {
				t.Errorf("list %d of %d: %+v, want %+v", k, i, got, spoilt)
			}
		}
	}
}

// TestDeclsAreLeft: Print changes neither declarations nor the room behind them, and looks at none of that.
func TestDeclsAreLeft(t *testing.T) {
	build := func() []api.Decl { return append(read(t, sample), read(t, "const c = 5\nconst d = 6")...) }
	l := build()
	for i := range l {
		d := &l[i]
		d.Values = append(d.Values, 77)[:len(d.Values)]
		d.Fields = append(d.Fields, api.Field{Name: "no"})[:len(d.Fields)]
	}
	before := build()
	text := parse.Print(before)
	if got := parse.Print(l[: len(l)-2 : len(l)]); got+"const c = 5\nconst d = 6\n" != text {
		t.Errorf("%q", got)
	}
	if !reflect.DeepEqual(trimDecls(l), trimDecls(before)) {
		t.Errorf("%+v, it was %+v", l, before)
	}
	for _, d := range l {
		if room := d.Values[:len(d.Values)+1]; room[len(d.Values)] != 77 {
			t.Errorf("the room behind %v holds %d", d.Values, room[len(d.Values)])
		}
		if room := d.Fields[:len(d.Fields)+1]; room[len(d.Fields)].Name != "no" {
			t.Errorf("the room behind %v holds %v", d.Fields, room[len(d.Fields)])
		}
	}
}

// TestOrderOfCalls: a fault leaves nothing behind that a later call could tell.
func TestOrderOfCalls(t *testing.T) {
	for range 3 {
		refuses(t, "union u { a t[t[t[t[t[t[t[t[x]]]]]]]] }", 28, api.ErrDeep)
		refuses(t, "union u { a t[", 14, api.ErrToken)
		tells(t, "const c = 5", api.Decl{Kind: api.DeclConst, Name: "c", Number: 5})
	}
}
