package gen_test

import (
	"reflect"
	"testing"

	"dredger/api"
	"dredger/draw"
	"dredger/gen"
	"dredger/prog"
)

// scrawl writes over all of a list, its spare room too.
func scrawl[T any](l []T, with T) {
	l = l[:cap(l)]
	for i := range l {
		l[i] = with
	}
}

// lists is functions that write over the lists of arguments, one each.
func lists(l []api.Arg) (all []func()) {
	for _, a := range l {
		all = append(all, func() { scrawl(a.Bytes, 0xee) })
		all = append(all, lists(a.Kids)...)
	}
	return append(all, func() { scrawl(l, api.Arg{Kind: -99}) })
}

func programLists(p api.Program) (all []func()) {
	for _, s := range p {
		all = append(all, lists(s.Args)...)
	}
	return append(all, func() { scrawl(p, api.Step{Call: -99}) })
}

// rich is draws by which there is much of all kinds.
func rich() *draw.Draws {
	n := numbers(77)
	l := []int{5}
	for range 400 {
		l = append(l, n.next(1<<31))
	}
	return draw.New(l)
}

// rooms is a program whose lists have spare room, which is not to be written to.
func rooms() api.Program {
	roomy := func(a ...api.Arg) []api.Arg { return append(a, value(-77))[:len(a)] }
	p := api.Program{step(cMake), step(cIn, roomy(value(9), ptr(part(1, group(roomy(value(3), data("abc"), value(0))...))), value(9))...), step(99)}
	return p[:2]
}

// unchanged asks whether the table and the program are still what they were.
func unchanged(t *testing.T, x api.Table, p api.Program) {
	t.Helper()
	want := rooms()
	if !reflect.DeepEqual(x, sample(t)) || !reflect.DeepEqual(trim(p[:3]), trim(want[:3])) || p[1].Args[:4][3].Value != -77 || p[1].Args[1].Kids[0].Kids[0].Kids[:4][3].Value != -77 {
		t.Fatalf("%+v, %+v", x, p)
	}
}

// apart asks whether what is done to one list of an answer, its spare room too, neither another list nor what was handed in nor a later answer can tell.
func apart(t *testing.T, name string, answer func(x api.Table, p api.Program) api.Program) {
	t.Helper()
	x, p := sample(t), rooms()
	if e := prog.Check(x, p); e != nil {
		t.Fatal(e)
	}
	want := trim(answer(x, p))
	if len(programLists(want)) < 8 {
		t.Fatalf("%s: %+v has too few lists", name, want)
	}
	for k := range programLists(want) {
		q := answer(x, p)
		programLists(q)[k]()
		marred := trim(want)
		programLists(marred)[k]()
		if !reflect.DeepEqual(trim(q), trim(marred)) {
			t.Errorf("%s, list %d: %+v, want %+v", name, k, q, marred)
		}
		unchanged(t, x, p)
	}
	if again := answer(x, p); !reflect.DeepEqual(trim(again), want) {
		t.Errorf("%s: %+v, it was %+v", name, again, want)
	}
}

// TestApart: answers are memory of their own.
func TestApart(t *testing.T) {
	apart(t, "Arg", func(x api.Table, p api.Program) (q api.Program) {
		d := rich()
		for n := range x.Types {
			a, e := gen.Arg(x, n, p, d)
			if e != api.OK {
				t.Fatal(e)
			}
			q = append(q, step(0, a))
		}
		return q
	})
	apart(t, "Step", func(x api.Table, p api.Program) (q api.Program) {
		d := rich()
		for call := range x.Calls {
			s, e := gen.Step(x, call, p, d)
			if e != api.OK {
				t.Fatal(e)
			}
			q = append(q, s)
		}
		return q
	})
	x := sample(t)
	c := draw.Weigh(x, nil)
	apart(t, "Program", func(x api.Table, _ api.Program) api.Program {
		q, e := gen.Program(x, c, rich(), 6)
		if e != api.OK {
			t.Fatal(e)
		}
		return q
	})
}

// TestTextsAreApart: two arguments of one text have bytes of their own.
func TestTextsAreApart(t *testing.T) {
	x := one(api.Type{Kind: api.TypeText, Texts: []string{"/abc"}}, api.Type{Kind: api.TypeArray, Lo: 2, Hi: 2, Elems: []int{0}})
	a, e := gen.Arg(x, 1, nil, draw.New(nil))
	if e != api.OK || len(a.Kids) != 2 {
		t.Fatal(a, e)
	}
	scrawl(a.Kids[0].Bytes, 'z')
	if string(a.Kids[1].Bytes) != "/abc" || x.Types[0].Texts[0] != "/abc" {
		t.Error(a, x)
	}
}
