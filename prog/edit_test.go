package prog_test

import (
	"math"
	"slices"
	"testing"

	"dredger/api"
	"dredger/prog"
)

func TestSame(t *testing.T) {
	same := func(a, b api.Program, want bool) {
		t.Helper()
		if prog.Same(a, b) != want || prog.Same(b, a) != want {
			t.Errorf("%+v, %+v: %v", a, b, !want)
		}
	}
	same(right(), right(), true)
	same(nil, api.Program{}, true)
	same(api.Program{{}}, api.Program{{Args: []api.Arg{}}}, true)
	same(api.Program{step(0, api.Arg{})}, api.Program{step(0, api.Arg{Kids: []api.Arg{}, Bytes: []byte{}})}, true)
	same(api.Program{{}}, nil, false)
	for i := range right() {
		same(right(), slices.Delete(right(), i, i+1), false)
		same(right(), insert(right(), i, right()[i]), false)
		same(right(), changed(func(p api.Program) { p[i].Call++ }), false)
		same(right(), changed(func(p api.Program) { p[i].Args = append(p[i].Args, api.Arg{}) }), false)
	}
	// Each field of an argument, also of one deep within.
	for _, at := range []func(p api.Program) *api.Arg{
		func(p api.Program) *api.Arg { return &p[2].Args[0] },
		func(p api.Program) *api.Arg { return &p[2].Args[5] },
		func(p api.Program) *api.Arg { return &p[5].Args[5].Kids[0].Kids[0].Kids[2] },
		func(p api.Program) *api.Arg { return &p[2].Args[5].Kids[0].Kids[0].Kids[1] },
	} {
		for _, change := range []func(a *api.Arg){
			func(a *api.Arg) { a.Kind++ }, func(a *api.Arg) { a.Value-- }, func(a *api.Arg) { a.Kids = append(a.Kids, api.Arg{}) },
			func(a *api.Arg) { a.Bytes = append(a.Bytes, 0) }, func(a *api.Arg) { *a = api.Arg{Kind: 9} },
		} {
			same(right(), changed(func(p api.Program) { change(at(p)) }), false)
		}
	}
	same(right(), changed(func(p api.Program) { p[2].Args[5].Kids[0].Kids[0].Kids[1].Bytes[1]++ }), false)
}

func TestCopy(t *testing.T) {
	odd := api.Program{{Call: -7, Args: []api.Arg{{Kind: 99, Value: -1, Bytes: []byte("a"), Kids: []api.Arg{{}, {Kids: []api.Arg{{Bytes: []byte("b")}}}}}}}, {}}
	for _, p := range []api.Program{nil, {}, right(), odd} {
		if q := prog.Copy(p); !equal(p, q) || !prog.Same(p, q) {
			t.Errorf("%+v, want %+v", q, p)
		}
	}
}

// nest is an argument of so many in one another, a reference inmost.
func nest(deep int) api.Arg {
	a := ref(5)
	for range deep {
		a = api.Arg{Kind: api.ArgGroup, Kids: []api.Arg{a}}
	}
	return a
}

// TestDeep: as many parts in one another as the promises go.
func TestDeep(t *testing.T) {
	deep := api.Program{step(cKill, nest(1<<16-1))}
	q := prog.Copy(deep)
	if !prog.Same(deep, q) || prog.Same(deep, api.Program{step(cKill, nest(1<<16-2))}) {
		t.Error("a copy is another one")
	}
	if l := prog.Uses(deep, 0); !slices.Equal(l, []int{5}) {
		t.Error(l)
	}
	isFault(t, "deep", prog.Check(sample(), deep), 0, api.ErrKind)
	if n, e := prog.Size(sample(), tStruct, deep[0].Args[0]); n != 0 || e != api.ErrCount {
		t.Error(n, e)
	}
	if p, e := prog.Insert(sample(), nil, 0, deep[0]); p != nil || e != api.ErrKind {
		t.Error(e)
	}
	if p, e := prog.Remove(sample(), deep, 0); p != nil || e != api.ErrKind {
		t.Error(e)
	}
}

func TestUses(t *testing.T) {
	wantUses := func(p api.Program, i int, want ...int) {
		t.Helper()
		if l := prog.Uses(p, i); !slices.Equal(l, want) {
			t.Errorf("step %d of %+v: %v, want %v", i, p, l, want)
		}
	}
	for i, want := range [][]int{nil, nil, {0}, nil, {1}, {0, 3}, {3}} {
		wantUses(right(), i, want...)
	}
	for _, i := range append([]int{7}, extremes...) {
		wantUses(right(), i)
		wantUses(nil, i)
	}
	wantUses(nil, 0)
	// However a program is: all references, at whatever depth.
	odd := api.Program{step(-1, ref(9), ptr(ref(3), part(7, ref(9))), api.Arg{Kind: api.ArgRef, Value: -4, Kids: []api.Arg{ref(3), value(8)}, Bytes: []byte{2}}, ref(math.MaxInt), api.Arg{Value: 6}, ref(0))}
	wantUses(odd, 0, -4, 0, 3, 9, math.MaxInt)
}

// removes asks for what Remove answers of the sample.
func removes(t *testing.T, p api.Program, i int, want api.Program, why api.Errno) {
	t.Helper()
	q, e := prog.Remove(sample(), p, i)
	if e != why || !equal(q, want) {
		t.Errorf("without %d, %+v: %+v, %v, want %+v, %v", i, p, q, e, want, why)
	}
}

func TestRemove(t *testing.T) {
	without0 := api.Program{
		step(cFork),
		use(value(-1), 7, ptr(part(1, structOf(2, "xy", value(-1))))),
		step(cMake), step(cKill, ref(0)),
		use(value(0), 12, ptr(part(2, group(ref(2), value(-1), value(-1))))),
		use(ref(2), 0, ptr()),
	}
	removes(t, right(), 0, without0, api.OK)
	without1 := changed(func(p api.Program) {
		p[4].Args[0] = value(7)
		p[5].Args[5].Kids[0].Kids[0].Kids[0] = ref(2)
		p[6].Args[4] = ref(2)
	})
	removes(t, right(), 1, slices.Delete(without1, 1, 2), api.OK)
	without3 := changed(func(p api.Program) {
		p[5].Args[5].Kids[0].Kids[0].Kids[0] = value(-1)
		p[6].Args[4] = value(-1)
	})
	removes(t, right(), 3, slices.Delete(without3, 3, 4), api.OK)
	removes(t, right(), 6, right()[:6], api.OK)
	removes(t, api.Program{step(cMake)}, 0, nil, api.OK)
	full := make(api.Program, 64)
	removes(t, full, 63, full[:63], api.OK)
	// No such step, ahead of what is wrong with the program.
	wrong := changed(func(p api.Program) { p[2].Args[3].Value++ })
	for _, i := range append([]int{7}, extremes...) {
		removes(t, right(), i, nil, api.ErrArg)
		removes(t, wrong, i, nil, api.ErrArg)
	}
	removes(t, make(api.Program, 70), 70, nil, api.ErrArg)
	removes(t, nil, 0, nil, api.ErrArg)
	removes(t, wrong, 2, nil, api.ErrLen)
	removes(t, make(api.Program, 65), 64, nil, api.ErrFull)
	removes(t, changed(func(p api.Program) { p[6].Call = 9 }), 6, nil, api.ErrCall)
	removes(t, changed(func(p api.Program) { p[5].Args = nil }), 0, nil, api.ErrCount)
	removes(t, changed(func(p api.Program) { p[5].Args[0] = ref(0) }), 0, nil, api.ErrKind)
	removes(t, changed(func(p api.Program) { p[5].Args[0].Value = 0 }), 0, nil, api.ErrValue)
	removes(t, changed(func(p api.Program) { p[5].Args[4] = ref(5) }), 5, nil, api.ErrRef)
}

// inserts asks for what Insert answers of the sample.
func inserts(t *testing.T, p api.Program, i int, s api.Step, want api.Program, why api.Errno) {
	t.Helper()
	q, e := prog.Insert(sample(), p, i, s)
	if e != why || !equal(q, want) {
		t.Errorf("%+v at %d, %+v: %+v, %v, want %+v, %v", s, i, p, q, e, want, why)
	}
}

func TestInsert(t *testing.T) {
	at0 := changed(func(p api.Program) {
		p[2].Args[4] = ref(1)
		p[2].Args[5].Kids[0].Kids[0].Kids[2] = ref(1)
		p[4].Args[0] = ref(2)
		p[5].Args[5].Kids[0].Kids[0].Kids[0] = ref(4)
		p[5].Args[5].Kids[0].Kids[0].Kids[2] = ref(1)
		p[6].Args[4] = ref(4)
	})
	inserts(t, right(), 0, step(cMake), insert(at0, 0, step(cMake)), api.OK)
	at3 := changed(func(p api.Program) {
		p[5].Args[5].Kids[0].Kids[0].Kids[0] = ref(4)
		p[6].Args[4] = ref(4)
	})
	for _, s := range []api.Step{step(cKill, ref(1)), use(ref(0), 0, ptr()), use(value(0), 8, ptr(part(2, group(ref(0), ref(0)))))} {
		inserts(t, right(), 3, s, insert(at3, 3, s), api.OK)
		inserts(t, right(), 7, s, insert(right(), 7, s), api.OK)
		inserts(t, right(), 6, s, insert(right(), 6, s), api.OK)
	}
	inserts(t, nil, 0, step(cMake), api.Program{step(cMake)}, api.OK)
	inserts(t, make(api.Program, 63), 63, step(cKill, value(7)), append(make(api.Program, 63), step(cKill, value(7))), api.OK)
	// What the step names stands ahead of it, where it gets to.
	inserts(t, right(), 0, step(cKill, ref(1)), nil, api.ErrRef)
	inserts(t, right(), 1, step(cKill, ref(1)), nil, api.ErrRef)
	inserts(t, right(), 2, step(cKill, ref(1)), insert(changed(func(p api.Program) {
		p[5].Args[5].Kids[0].Kids[0].Kids[0] = ref(4)
		p[6].Args[4] = ref(4)
	}), 2, step(cKill, ref(1))), api.OK)
	// A wrong step.
	inserts(t, right(), 2, step(4), nil, api.ErrCall)
	inserts(t, right(), 2, step(cKill), nil, api.ErrCount)
	inserts(t, right(), 2, step(cKill, ptr()), nil, api.ErrKind)
	inserts(t, right(), 2, step(cKill, value(8)), nil, api.ErrValue)
	inserts(t, right(), 2, use(ref(0), 1, ptr()), nil, api.ErrLen)
	// No such place; then a wrong program; then one that is full; then a wrong step.
	wrong := changed(func(p api.Program) { p[2].Args[3].Value++ })
	for _, i := range append([]int{8}, extremes...) {
		inserts(t, right(), i, step(cMake), nil, api.ErrArg)
		inserts(t, wrong, i, step(4), nil, api.ErrArg)
	}
	inserts(t, make(api.Program, 70), 71, step(4), nil, api.ErrArg)
	inserts(t, make(api.Program, 70), -1, step(4), nil, api.ErrArg)
	inserts(t, wrong, 0, step(4), nil, api.ErrLen)
	inserts(t, make(api.Program, 65), 0, step(4), nil, api.ErrFull)
	inserts(t, make(api.Program, 64), 0, step(4), nil, api.ErrFull)
	inserts(t, make(api.Program, 64), 64, step(cMake), nil, api.ErrFull)
	inserts(t, append(make(api.Program, 63), step(4)), 0, step(cMake), nil, api.ErrCall)
}
