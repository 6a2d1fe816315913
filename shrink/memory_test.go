package shrink_test

import (
	"reflect"
	"slices"
	"testing"

	"dredger/api"
	"dredger/shrink"
)

// scrawl writes over all of a list, its spare room too.
func scrawl[T any](l []T, with T) {
	l = l[:cap(l)]
	for i := range l {
		l[i] = with
	}
}

// lists is functions that write over the lists of arguments, one each.
func lists(l []api.Arg) (all []func()) {
	for _, a := range l {
		all = append(all, func() { scrawl(a.Bytes, 0xee) })
		all = append(all, lists(a.Kids)...)
	}
	return append(all, func() { scrawl(l, api.Arg{Kind: -99}) })
}

func programLists(p api.Program) (all []func()) {
	for _, s := range p {
		all = append(all, lists(s.Args)...)
	}
	return append(all, func() { scrawl(p, api.Step{Call: -99}) })
}

// rooms is a program whose lists have spare room, which is not to be written to, and that reports fault 4: one of which nothing can be left out, or with steps behind that may go.
func rooms(more int) api.Program {
	roomy := func(a ...api.Arg) []api.Arg { return append(a, value(-77))[:len(a)] }
	bytes := []byte("/aKEPT")
	p := api.Program{
		step(cOpen, roomy(ptr(roomy(api.Arg{Kind: api.ArgData, Bytes: bytes[:2]})...), value(11))...),
		step(cFork, roomy()...),
		step(cClose, roomy(ref(0))...),
		step(99),
		step(99),
	}
	return p[:2+more]
}

// isKept asks whether a program of rooms is still what it was, the room behind its lists included.
func isKept(p api.Program) bool {
	p = p[:5]
	path := p[0].Args[0].Kids
	return reflect.DeepEqual(trim(p), trim(rooms(3))) && p[0].Args[:3][2].Value == -77 && p[1].Args[:1][0].Value == -77 && p[2].Args[:2][1].Value == -77 && path[:2][1].Value == -77 && string(path[0].Bytes[:6]) == "/aKEPT"
}

// TestApart: what is done to one list of an answer, its spare room too, neither another list nor what was handed in nor a later answer can tell.
func TestApart(t *testing.T) {
	x := sample(t)
	for _, more := range []int{0, 1} {
		p := rooms(more)
		room := []int{3, 1, 2, 71, 72}
		ask := func() api.Program {
			t.Helper()
			q, _, err := shrink.Shrink(x, p, api.DefectFork, room[:3])
			if err != nil || !same(q, rooms(0)) {
				t.Fatal(q, err)
			}
			return q
		}
		for k := range programLists(ask()) {
			q := ask()
			programLists(q)[k]()
			marred := trim(rooms(0))
			programLists(marred)[k]()
			if !reflect.DeepEqual(trim(q), trim(marred)) {
				t.Errorf("list %d: %+v, want %+v", k, q, marred)
			}
			if shrink.Least(x, p, api.DefectFork, room[:3]) != (more == 0) {
				t.Error("Least")
			}
			if !reflect.DeepEqual(x, sample(t)) || !isKept(p) || !slices.Equal(room, []int{3, 1, 2, 71, 72}) {
				t.Fatalf("list %d: %+v, %+v, %v", k, x, p, room)
			}
		}
	}
}
