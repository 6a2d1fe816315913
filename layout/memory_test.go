package layout_test

import (
	"reflect"
	"testing"

	"dredger/api"
	"dredger/layout"
)

// scrawl writes over all of a list, its spare room too.
func scrawl[T any](l []T, with T) {
	l = l[:cap(l)]
	for i := range l {
		l[i] = with
	}
}

// lists is functions that write over the lists of arguments, one each.
func lists(l []api.Arg) (all []func()) {
	for _, a := range l {
		all = append(all, func() { scrawl(a.Bytes, 0xee) })
		all = append(all, lists(a.Kids)...)
	}
	return append(all, func() { scrawl(l, api.Arg{Kind: -99}) })
}

func programLists(p api.Program) (all []func()) {
	for _, s := range p {
		all = append(all, lists(s.Args)...)
	}
	return append(all, func() { scrawl(p, api.Step{Call: -99}) })
}

func execLists(l []api.Exec) (all []func()) {
	for _, x := range l {
		for _, c := range x.Copies {
			all = append(all, func() { scrawl(c.Bytes, 0xee) })
		}
		all = append(all, func() { scrawl(x.Copies, api.Copy{Addr: -99}) }, func() { scrawl(x.Words, api.Word{Ref: -99}) })
	}
	return append(all, func() { scrawl(l, api.Exec{Number: -99}) })
}

// TestFixedIsApart: what is done to one list of what Fix answers, its spare room too, neither another list nor the program nor a later answer can tell.
func TestFixedIsApart(t *testing.T) {
	x := sample(t)
	for _, p := range []api.Program{right(), changed(right(), func(p api.Program) { p[4].Args[1].Value++ })} {
		before := trim(p)
		for k := range programLists(right()) {
			q, e := layout.Fix(x, p)
			if e != api.OK {
				t.Fatal(e)
			}
			programLists(q)[k]()
			marred := trim(right())
			programLists(marred)[k]()
			if !reflect.DeepEqual(trim(q), trim(marred)) {
				t.Errorf("list %d: %+v, want %+v", k, q, marred)
			}
			if !reflect.DeepEqual(trim(p), before) {
				t.Fatalf("list %d: the program is %+v, it was %+v", k, p, before)
			}
		}
	}
	fixes(t, x, right(), right(), api.OK)
}

// TestLaidIsApart: likewise of what Lay answers.
func TestLaidIsApart(t *testing.T) {
	x, p := sample(t), right()
	want, _ := layout.Lay(x, p)
	for k := range execLists(want) {
		l, _ := layout.Lay(x, p)
		execLists(l)[k]()
		marred := trimExecs(want)
		execLists(marred)[k]()
		if !reflect.DeepEqual(trimExecs(l), trimExecs(marred)) {
			t.Errorf("list %d: %+v, want %+v", k, l, marred)
		}
		lays(t, x, p, want, api.OK)
	}
	if !reflect.DeepEqual(x, sample(t)) || !reflect.DeepEqual(trim(p), trim(right())) {
		t.Errorf("%+v, %+v", x, p)
	}
}

// TestSharedLists: steps that share their arguments' lists.
func TestSharedLists(t *testing.T) {
	x := sample(t)
	s := step(cIn, value(0), ptr(part(1, pair(0, "xy", value(-1)))), value(0))
	fixed := step(cIn, value(8), ptr(part(1, pair(2, "xy", value(-1)))), value(8))
	fixes(t, x, api.Program{s, s}, api.Program{fixed, fixed}, api.OK)
	bytes := "\x02\x00xy\xff\xff\xff\xff"
	lays(t, x, api.Program{fixed, fixed}, []api.Exec{
		{Number: 63, Copies: []api.Copy{at(4096, bytes)}, Words: words(8, 4096, 8)},
		{Number: 63, Copies: []api.Copy{at(4104, bytes)}, Words: words(8, 4104, 8)},
	}, api.OK)
}
