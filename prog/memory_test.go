package prog_test

import (
	"reflect"
	"testing"

	"dredger/api"
	"dredger/prog"
)

// scrawl writes over all of a list, its spare room too.
func scrawl[T any](l []T, with T) {
	l = l[:cap(l)]
	for i := range l {
		l[i] = with
	}
}

// lists is functions that write over the lists of arguments, one each.
func lists(l []api.Arg) (all []func()) {
	for _, a := range l {
		all = append(all, func() { scrawl(a.Bytes, 0xee) })
		all = append(all, lists(a.Kids)...)
	}
	return append(all, func() { scrawl(l, api.Arg{Kind: -99}) })
}

// programLists is that of a program.
func programLists(p api.Program) (all []func()) {
	for _, s := range p {
		all = append(all, lists(s.Args)...)
	}
	return append(all, func() { scrawl(p, api.Step{Call: -99}) })
}

// roomy is a program all of whose lists have room behind their ends, with something in it.
func roomy(p api.Program) api.Program {
	var args func(l []api.Arg) []api.Arg
	args = func(l []api.Arg) (out []api.Arg) {
		for _, a := range l {
			a.Kids, a.Bytes = args(a.Kids), append(append([]byte(nil), a.Bytes...), 0x77)[:len(a.Bytes)]
			out = append(out, a)
		}
		return append(out, value(77))[:len(l)]
	}
	var q api.Program
	for _, s := range p {
		q = append(q, api.Step{Call: s.Call, Args: args(s.Args)})
	}
	return append(q, step(77))[:len(p)]
}

// room is what stands behind the ends of a program's lists.
func room(p api.Program) (l []any) {
	var args func(l []api.Arg)
	args = func(k []api.Arg) {
		for _, a := range k {
			args(a.Kids)
			l = append(l, a.Bytes[:len(a.Bytes)+1][len(a.Bytes)])
		}
		l = append(l, k[:len(k)+1][len(k)])
	}
	for _, s := range p {
		args(s.Args)
	}
	return append(l, p[:len(p)+1][len(p)])
}

// answers is what each call answers of a program, as programs.
func answers(p api.Program, s api.Step) []func() api.Program {
	x := sample()
	edited := func(q api.Program, e api.Errno) api.Program {
		if e != api.OK {
			panic(e)
		}
		return q
	}
	return []func() api.Program{
		func() api.Program { return prog.Copy(p) },
		func() api.Program { return edited(prog.Remove(x, p, 0)) },
		func() api.Program { return edited(prog.Remove(x, p, 6)) },
		func() api.Program { return edited(prog.Insert(x, p, 0, step(cMake))) },
		func() api.Program { return edited(prog.Insert(x, p, 5, s)) },
		func() api.Program { return edited(prog.Insert(x, p, 7, s)) },
		func() api.Program {
			a, e := prog.Default(x, tPtr)
			return edited(api.Program{step(cKill, a)}, e)
		},
	}
}

// TestListsAreApart: what is done to one list of an answer, its spare room too, neither another list nor an argument nor a later answer can tell.
func TestListsAreApart(t *testing.T) {
	p := roomy(right())
	s := roomy(api.Program{use(ref(0), 7, ptr(part(1, structOf(2, "xy", ref(0)))))})[0]
	rooms := room(p)
	for which, answer := range answers(p, s) {
		want := trim(answer())
		for k := range programLists(want) {
			q := answer()
			programLists(q)[k]()
			marred := trim(want)
			programLists(marred)[k]()
			if !equal(q, marred) {
				t.Errorf("answer %d, list %d: %+v, want %+v", which, k, q, marred)
			}
			if !equal(p, right()) || !reflect.DeepEqual(room(p), rooms) || !equal(api.Program{s}, right()[2:3]) {
				t.Fatalf("answer %d, list %d: the arguments are %+v, %+v", which, k, p, s)
			}
			if again := answer(); !equal(again, want) {
				t.Fatalf("answer %d, list %d: then %+v, want %+v", which, k, again, want)
			}
		}
	}
}

// TestSharedLists: steps and arguments that share lists, as tests and mutations make them, are apart in answers.
func TestSharedLists(t *testing.T) {
	shared := ptr(part(2, group(ref(0), ref(0))))
	s := use(value(0), 8, shared)
	p := api.Program{step(cMake), s, s}
	x := sample()
	q, e := prog.Insert(x, p, 0, step(cFork))
	if want := (api.Program{step(cFork), step(cMake), use(value(0), 8, ptr(part(2, group(ref(1), ref(1))))), use(value(0), 8, ptr(part(2, group(ref(1), ref(1)))))}); e != api.OK || !equal(q, want) {
		t.Errorf("%+v, %v", q, e)
	}
	q, e = prog.Insert(x, p, 1, s)
	if e != api.OK || !equal(q, api.Program{step(cMake), s, s, s}) {
		t.Errorf("%+v, %v", q, e)
	}
	q[1].Args[5].Kids[0].Kids[0].Kids[0] = value(1)
	if !equal(p, api.Program{step(cMake), s, s}) || q[2].Args[5].Kids[0].Kids[0].Kids[0].Kind != api.ArgRef {
		t.Errorf("%+v, %+v", p, q)
	}
	q, e = prog.Remove(x, p, 0)
	fixed := use(value(0), 8, ptr(part(2, group(value(-1), value(-1)))))
	if e != api.OK || !equal(q, api.Program{fixed, fixed}) || !equal(p, api.Program{step(cMake), s, s}) {
		t.Errorf("%+v, %v", q, e)
	}
}

// TestTableIsLeft: no call changes a table, or keeps what it answers in it.
func TestTableIsLeft(t *testing.T) {
	x := sample()
	for range 2 {
		for n := range x.Types {
			a, e := prog.Default(x, n)
			if e != api.OK {
				t.Fatal(e)
			}
			for _, f := range lists([]api.Arg{a}) {
				f()
			}
		}
		prog.Check(x, right())
		prog.Insert(x, right(), 3, step(cMake))
		prog.Remove(x, right(), 3)
	}
	if !reflect.DeepEqual(x, sample()) {
		t.Errorf("%+v", x)
	}
}

// TestUsesIsApart: of one step twice.
func TestUsesIsApart(t *testing.T) {
	p := right()
	scrawl(prog.Uses(p, 5), 99)
	if l := prog.Uses(p, 5); len(l) != 2 || l[0] != 0 || l[1] != 3 || !equal(p, right()) {
		t.Error(l, p)
	}
}
