package mutate_test

import (
	"reflect"
	"testing"

	"dredger/api"
	"dredger/draw"
)

// scrawl writes over all of a list, its spare room too.
func scrawl[T any](l []T, with T) {
	l = l[:cap(l)]
	for i := range l {
		l[i] = with
	}
}

// lists is functions that write over the lists of arguments, one each.
func lists(l []api.Arg) (all []func()) {
	for _, a := range l {
		all = append(all, func() { scrawl(a.Bytes, 0xee) })
		all = append(all, lists(a.Kids)...)
	}
	return append(all, func() { scrawl(l, api.Arg{Kind: -99}) })
}

func programLists(p api.Program) (all []func()) {
	for _, s := range p {
		all = append(all, lists(s.Args)...)
	}
	return append(all, func() { scrawl(p, api.Step{Call: -99}) })
}

// rooms is a program whose lists have spare room, which is not to be written to.
func rooms() api.Program {
	roomy := func(a ...api.Arg) []api.Arg { return append(a, value(-77))[:len(a)] }
	bytes := []byte("abcKEPT")
	p := api.Program{
		step(cMake),
		step(cIn, roomy(value(9), ptr(part(1, group(roomy(value(3), api.Arg{Kind: api.ArgData, Bytes: bytes[:3]}, ref(0))...))), value(9))...),
		step(cUse, roomy(value(1), ref(0), value(7))...),
		step(99),
		step(99),
	}
	return p[:3]
}

// isKept asks whether a program of rooms is still what it was, the room behind its lists included.
func isKept(p api.Program) bool {
	pair := p[1].Args[1].Kids[0].Kids[0].Kids
	return reflect.DeepEqual(trim(p[:5]), trim(rooms()[:5])) && p[1].Args[:4][3].Value == -77 && p[2].Args[:4][3].Value == -77 && pair[:4][3].Value == -77 && string(pair[1].Bytes[:7]) == "abcKEPT"
}

// apart asks whether what is done to one list of an answer, its spare room too, neither another list nor what was handed in nor a later answer can tell.
func apart(t *testing.T, name string, l []int, answer func(x api.Table, p, q api.Program) mutation) {
	t.Helper()
	x, p, q := sample(t), rooms(), rooms()
	ask := func() api.Program {
		t.Helper()
		r, e := answer(x, p, q)(draw.New(l))
		if e != api.OK {
			t.Fatalf("%s: %v", name, e)
		}
		return r
	}
	want := trim(ask())
	if len(programLists(want)) < 8 {
		t.Fatalf("%s: %+v has too few lists", name, want)
	}
	for k := range programLists(want) {
		r := ask()
		programLists(r)[k]()
		marred := trim(want)
		programLists(marred)[k]()
		if !reflect.DeepEqual(trim(r), trim(marred)) {
			t.Errorf("%s, list %d: %+v, want %+v", name, k, r, marred)
		}
		if !reflect.DeepEqual(x, sample(t)) || !isKept(p) || !isKept(q) {
			t.Fatalf("%s, list %d: %+v, %+v, %+v", name, k, x, p, q)
		}
	}
	if again := ask(); !reflect.DeepEqual(trim(again), want) {
		t.Errorf("%s: %+v, it was %+v", name, again, want)
	}
}

// TestApart: answers are memory of their own, those that are as p was, too.
func TestApart(t *testing.T) {
	c := draw.Weigh(sample(t), nil)
	by := func(most int) func(x api.Table, p, q api.Program) mutation {
		return func(x api.Table, p, q api.Program) mutation { return insert(x, c, p, most) }
	}
	for i := range 4 {
		apart(t, "Insert", []int{i, 7, 1, 1, 3, 65, 66, 67, 0}, by(9))
		apart(t, "Splice", []int{i}, func(x api.Table, p, q api.Program) mutation { return splice(x, p, q, 9) })
		apart(t, "Splice, one program", []int{i}, func(x api.Table, p, q api.Program) mutation { return splice(x, p, p, 5) })
		apart(t, "Splice of none", []int{i}, func(x api.Table, p, q api.Program) mutation { return splice(x, p, q, 3) })
		apart(t, "Mutate", []int{i, 0, 2, 2}, func(x api.Table, p, q api.Program) mutation { return drawn(x, c, p, q, 9) })
		apart(t, "Mutate of none", []int{i, 0, 2, 2}, func(x api.Table, p, q api.Program) mutation { return drawn(x, c, p, q, 2) })
	}
	apart(t, "Insert of none", nil, by(2))
	for _, i := range []int{0, 2} {
		apart(t, "Remove", []int{i}, func(x api.Table, p, q api.Program) mutation { return remove(x, p) })
	}
	for _, l := range [][]int{{0}, {1, 0}, {1, 1, 1, 1, 4, 65, 66, 67, 68, 0}, {2, 0, 1}, {2, 1, 0}, {2, 1, 1, 1}} {
		apart(t, "Change", l, func(x api.Table, p, q api.Program) mutation { return change(x, p) })
	}
}
