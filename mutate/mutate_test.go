package mutate_test

import (
	"math"
	"slices"
	"testing"

	"dredger/api"
	"dredger/draw"
	"dredger/mutate"
)

// TestInsert: P21.1, at each place; who named later steps names them still.
func TestInsert(t *testing.T) {
	x := sample(t)
	c := draw.Weigh(x, nil)
	p := api.Program{step(cMake), step(cMake), use(ref(1), value(7)), use(ref(0), value(7))}
	comes(t, x, insert(x, c, p, 5), []int{0, 1}, api.Program{step(cFork), p[0], p[1], use(ref(2), value(7)), use(ref(1), value(7))})
	comes(t, x, insert(x, c, p, 5), []int{1, 0}, api.Program{p[0], step(cMake), p[1], use(ref(2), value(7)), use(ref(0), value(7))})
	comes(t, x, insert(x, c, p, 5), []int{2, 1}, api.Program{p[0], p[1], step(cFork), p[2], p[3]})
	comes(t, x, insert(x, c, p, 5), []int{3, 1}, api.Program{p[0], p[1], p[2], step(cFork), p[3]})
	comes(t, x, insert(x, c, p, 5), []int{4, 1}, append(slices.Clone(p), step(cFork)))
	comes(t, x, insert(x, c, p, 5), []int{5, 1}, api.Program{step(cFork), p[0], p[1], use(ref(2), value(7)), use(ref(1), value(7))})
	comes(t, x, insert(x, c, nil, 1), []int{3, 1}, api.Program{step(cFork)})
	// Without draws: the first call, at the beginning.
	if q, e := mutate.Insert(x, c, p[:1], draw.New(nil), 9); e != api.OK || !same(q, api.Program{step(cMake), step(cMake)}) {
		t.Error(q, e)
	}
	q, e := mutate.Insert(x, c, woven(), draw.New(nil), 64)
	want := api.Program{
		step(cMake),
		step(cMake),
		step(cFork),
		use(ref(1), ref(2)),
		step(cOut, ptr(group(group(value(2), data("AB"), ref(1)), group(value(0), data(""), value(0)))), ptr(ref(1))),
		step(cIn, value(8), ptr(part(1, group(value(2), data("CD"), ref(4)))), value(8)),
		use(ref(4), ref(2)),
	}
	if e != api.OK || !same(q, want) {
		t.Error(q, e)
	}
}

// TestInsertPicks: the call is picked behind the one of the step ahead, and at the beginning behind none.
func TestInsertPicks(t *testing.T) {
	x := sample(t)
	c := draw.Weigh(x, []api.Program{{step(cFork), step(cMake)}})
	p := api.Program{step(cMake), step(cFork)}
	// Weights: 1 3 1 1 1 at first; 1 1 5 1 5 behind make; 3 1 5 1 1 behind fork.
	comes(t, x, insert(x, c, p, 9), []int{0, 3}, api.Program{step(cFork), p[0], p[1]})
	comes(t, x, insert(x, c, p, 9), []int{1, 1}, api.Program{p[0], step(cFork), p[1]})
	comes(t, x, insert(x, c, p, 9), []int{1, 6, 0, 0, 0, 0}, api.Program{p[0], step(cUse, value(1), ref(0), value(7)), p[1]})
	comes(t, x, insert(x, c, p, 9), []int{2, 2}, api.Program{p[0], p[1], step(cMake)})
	comes(t, x, insert(x, c, p, 9), []int{2, 3}, api.Program{p[0], p[1], step(cFork)})
}

// TestInsertDraws: the step is drawn behind those ahead alone, and its lengths are right.
func TestInsertDraws(t *testing.T) {
	x := sample(t)
	c := draw.Weigh(x, nil)
	p := api.Program{step(cMake), step(cFork), step(cMake)}
	// Behind make: 1 1 5 1 5; behind fork: 1 1 5 1 1.
	comes(t, x, insert(x, c, p, 9), []int{3, 2, 1, 1, 0}, append(slices.Clone(p), step(cUse, value(9), ref(2), ref(1))))
	comes(t, x, insert(x, c, p, 9), []int{2, 2, 1, 1, 0, 0}, api.Program{p[0], p[1], step(cUse, value(9), value(-1), ref(1)), p[2]})
	comes(t, x, insert(x, c, p, 9), []int{1, 2, 1, 0, 0, 0}, api.Program{p[0], step(cUse, value(9), ref(0), value(7)), p[1], p[2]})
	comes(t, x, insert(x, c, p, 9), []int{0, 2, 1, 0, 1, 0, 0}, api.Program{step(cUse, value(9), value(0), value(7)), p[0], p[1], p[2]})
	comes(t, x, insert(x, c, p, 9), []int{2, 7, 1, 1, 3, 65, 66, 67, 0}, api.Program{p[0], p[1], step(cIn, value(9), ptr(part(1, group(value(3), data("ABC"), ref(0)))), value(9)), p[2]})
}

// TestInsertBound: most counts from 0 to MaxCalls; a program that has as many stays, and nothing is drawn.
func TestInsertBound(t *testing.T) {
	x := sample(t)
	c := draw.Weigh(x, nil)
	for _, b := range []struct {
		steps, most int
		fits        bool
	}{
		{0, 0, false}, {0, -1, false}, {0, math.MinInt, false}, {0, 1, true},
		{3, 2, false}, {3, 3, false}, {3, 4, true}, {3, -1, false},
		{63, 63, false}, {63, 64, true}, {63, 65, true}, {63, math.MaxInt, true},
		{64, 64, false}, {64, 65, false}, {64, math.MaxInt, false}, {64, 0, false},
	} {
		p := make(api.Program, b.steps)
		if b.fits {
			comes(t, x, insert(x, c, p, b.most), []int{0, 0}, make(api.Program, b.steps+1))
		} else {
			comes(t, x, insert(x, c, p, b.most), nil, p)
		}
	}
	none := api.Table{Types: x.Types}
	comes(t, none, insert(none, draw.Weigh(none, nil), nil, 9), nil, nil)
}

// TestRemove: P21.2, each step; who named it has the first special value.
func TestRemove(t *testing.T) {
	x := sample(t)
	p := woven()
	out := func(deep, at api.Arg) api.Step {
		return step(cOut, ptr(group(group(value(2), data("AB"), deep), group(value(0), data(""), value(0)))), ptr(at))
	}
	in := func(deep api.Arg) api.Step {
		return step(cIn, value(8), ptr(part(1, group(value(2), data("CD"), deep))), value(8))
	}
	for i, want := range []api.Program{
		{step(cFork), use(value(-1), ref(0)), out(value(-1), value(-1)), in(ref(2)), use(ref(2), ref(0))},
		{step(cMake), use(ref(0), value(7)), out(ref(0), ref(0)), in(ref(2)), use(ref(2), value(7))},
		{step(cMake), step(cFork), out(ref(0), ref(0)), in(ref(2)), use(ref(2), ref(1))},
		{step(cMake), step(cFork), use(ref(0), ref(1)), in(value(-1)), use(value(-1), ref(1))},
		{step(cMake), step(cFork), use(ref(0), ref(1)), out(ref(0), ref(0)), use(ref(3), ref(1))},
		p[:5],
	} {
		comes(t, x, remove(x, p), []int{i}, want)
		comes(t, x, remove(x, p), []int{i + 6}, want)
	}
	if q, e := mutate.Remove(x, p, draw.New(nil)); e != api.OK || len(q) != 5 || q[0].Call != cFork {
		t.Error("the first step goes:", q, e)
	}
	comes(t, x, remove(x, p), []int{-1}, api.Program{step(cMake), step(cFork), use(ref(0), ref(1)), in(value(-1)), use(value(-1), ref(1))}) // 2^64 - 1 by 6: 3
	comes(t, x, remove(x, p[:1]), []int{7}, nil)
	comes(t, x, remove(x, nil), nil, nil)
	comes(t, x, remove(x, api.Program{}), nil, nil)
	comes(t, x, remove(x, make(api.Program, 64)), []int{63}, make(api.Program, 63))
}

// TestChange: P21.3, an argument of a step is drawn anew, behind the steps ahead.
func TestChange(t *testing.T) {
	x := sample(t)
	p := woven()
	with := func(i int, s api.Step) api.Program {
		q := trim(p)
		q[i] = s
		return q
	}
	comes(t, x, change(x, p), []int{2, 0, 2, 7}, with(2, step(cUse, value(8), ref(0), ref(1))))
	comes(t, x, change(x, p), []int{2, 1, 0}, p)
	comes(t, x, change(x, p), []int{2, 1, 1, 1}, with(2, use(value(0), ref(1))))
	comes(t, x, change(x, p), []int{2, 2, 1, 0}, with(2, use(ref(0), value(7))))
	// Behind the first five steps there are two that make an fd.
	comes(t, x, change(x, p), []int{5, 1, 0}, with(5, use(ref(0), ref(1))))
	comes(t, x, change(x, p), []int{5, 1, 1}, p)
	comes(t, x, change(x, p), []int{5, 4, 2, 0}, with(5, use(value(-1), ref(1))))
	comes(t, x, change(x, p), []int{11, 4, 2, 0}, with(5, use(value(-1), ref(1))))
	comes(t, x, change(x, p), []int{3, 1, 1, 1, 0}, with(3, step(cOut, p[3].Args[0], ptr(value(-1)))))
	// Who named the step names it still.
	comes(t, x, change(x, p), []int{3, 0, 0}, with(3, step(cOut, ptr(), ptr(ref(0)))))
	comes(t, x, change(x, p), []int{3, 0, 1, 0, 1, 90, 1, 9}, with(3, step(cOut, ptr(group(group(value(1), data("Z"), value(0)))), ptr(ref(0)))))
	for i := range 2 {
		comes(t, x, change(x, p), []int{i}, p)
	}
	comes(t, x, change(x, nil), nil, nil)
	comes(t, x, change(x, api.Program{}), nil, nil)
	if q, e := mutate.Change(x, p[2:3], draw.New(nil)); len(q) != 0 || e != api.ErrRef {
		t.Error(q, e)
	}
}

// TestChangeLengths: lengths have their values behind it, wherever they stand; a length itself is as it was.
func TestChangeLengths(t *testing.T) {
	x := sample(t)
	p := api.Program{step(cMake), step(cIn, value(3), ptr(part(0, data("/a"))), value(3))}
	comes(t, x, change(x, p), []int{1, 0}, p)
	comes(t, x, change(x, p), []int{1, 2}, p)
	comes(t, x, change(x, p), []int{1, 1, 0}, api.Program{p[0], step(cIn, value(0), ptr(), value(0))})
	comes(t, x, change(x, p), []int{1, 1, 1, 0, 1}, api.Program{p[0], step(cIn, value(1), ptr(part(0, data(""))), value(1))})
	comes(t, x, change(x, p), []int{1, 1, 1, 1, 4, 1, 2, 3, 4, 0}, api.Program{p[0], step(cIn, value(10), ptr(part(1, group(value(4), data("\x01\x02\x03\x04"), ref(0)))), value(10))})
	comes(t, x, change(x, p), []int{1, 1, 1, 2, 3, 6}, api.Program{p[0], step(cIn, value(8), ptr(part(2, value(6))), value(8))})
}

// TestSplice: P21.4, at each place; steps of both programs name what they named.
func TestSplice(t *testing.T) {
	x := sample(t)
	p := api.Program{step(cMake), step(cFork), use(ref(0), ref(1)), use(ref(0), value(7))}
	q := api.Program{step(cFork), step(cMake), use(ref(1), ref(0))}
	for i, want := range []api.Program{
		{q[0], q[1], use(ref(1), ref(0)), p[0], p[1], use(ref(3), ref(4)), use(ref(3), value(7))},
		{p[0], q[0], q[1], use(ref(2), ref(1)), p[1], use(ref(0), ref(4)), use(ref(0), value(7))},
		{p[0], p[1], q[0], q[1], use(ref(3), ref(2)), use(ref(0), ref(1)), use(ref(0), value(7))},
		{p[0], p[1], p[2], q[0], q[1], use(ref(4), ref(3)), p[3]},
		{p[0], p[1], p[2], p[3], q[0], q[1], use(ref(5), ref(4))},
	} {
		for _, most := range []int{7, 8, 64, 65, math.MaxInt} {
			comes(t, x, splice(x, p, q, most), []int{i}, want)
			comes(t, x, splice(x, p, q, most), []int{i + 5}, want)
		}
	}
	comes(t, x, splice(x, p, q, 9), []int{-1}, api.Program{q[0], q[1], q[2], p[0], p[1], use(ref(3), ref(4)), use(ref(3), value(7))}) // 2^64 - 1 by 5: 0
	comes(t, x, splice(x, nil, q, 9), []int{4}, q)
	comes(t, x, splice(x, p, nil, 9), []int{4}, p)
	comes(t, x, splice(x, nil, nil, 9), []int{4}, nil)
	if r, e := mutate.Splice(x, p, q, draw.New(nil), 5); e != api.OK || !same(r, api.Program{q[0], p[0], p[1], use(ref(1), ref(2)), use(ref(1), value(7))}) {
		t.Error(r, e)
	}
}

// TestSpliceDeep: references deep within are moved, too; values that are as great are not.
func TestSpliceDeep(t *testing.T) {
	x := sample(t)
	p := woven()
	comes(t, x, splice(x, p, p, 64), []int{1}, api.Program{
		step(cMake),
		step(cMake),
		step(cFork),
		use(ref(1), ref(2)),
		step(cOut, ptr(group(group(value(2), data("AB"), ref(1)), group(value(0), data(""), value(0)))), ptr(ref(1))),
		step(cIn, value(8), ptr(part(1, group(value(2), data("CD"), ref(4)))), value(8)),
		use(ref(4), ref(2)),
		step(cFork),
		use(ref(0), ref(7)),
		step(cOut, ptr(group(group(value(2), data("AB"), ref(0)), group(value(0), data(""), value(0)))), ptr(ref(0))),
		step(cIn, value(8), ptr(part(1, group(value(2), data("CD"), ref(9)))), value(8)),
		use(ref(9), ref(7)),
	})
}

// TestSpliceBound: as many steps as p has less than most, from the first one on; the place is drawn even so.
func TestSpliceBound(t *testing.T) {
	x := sample(t)
	p := api.Program{step(cMake), use(ref(0), value(7))}
	q := api.Program{step(cFork), step(cMake), use(ref(1), ref(0))}
	for _, most := range []int{math.MinInt, -1, 0, 1, 2} {
		for i := range 3 {
			comes(t, x, splice(x, p, q, most), []int{i}, p)
		}
	}
	comes(t, x, splice(x, p, q, 3), []int{1}, api.Program{p[0], q[0], p[1]})
	comes(t, x, splice(x, p, q, 4), []int{0}, api.Program{q[0], q[1], p[0], use(ref(2), value(7))})
	comes(t, x, splice(x, p, q, 5), []int{2}, api.Program{p[0], p[1], q[0], q[1], use(ref(3), ref(2))})
	full, forks := make(api.Program, 64), slices.Repeat(api.Program{step(cFork)}, 64)
	for _, most := range []int{64, 65, math.MaxInt} {
		comes(t, x, splice(x, full, forks, most), []int{64}, full)
		comes(t, x, splice(x, full[:60], forks, most), []int{60}, slices.Concat(full[:60], forks[:4]))
		comes(t, x, splice(x, nil, forks, most), []int{0}, forks)
	}
	comes(t, x, splice(x, full, forks, 3), []int{5}, full)
	comes(t, x, splice(x, nil, forks, 63), []int{0}, forks[:63])
}

// TestMutate: P21.5, the first draw tells which one it is.
func TestMutate(t *testing.T) {
	x := sample(t)
	c := draw.Weigh(x, nil)
	p := woven()
	q := api.Program{step(cFork)}
	m := drawn(x, c, p, q, 9)
	for _, which := range []int{0, 4, -4} {
		comes(t, x, m, []int{which, 6, 1}, append(woven(), step(cFork)))
		comes(t, x, m, []int{which + 1, 5}, p[:5])
		comes(t, x, m, []int{which + 2, 5, 0, 1}, append(woven()[:5], step(cUse, value(9), ref(3), ref(1))))
		comes(t, x, m, []int{which + 3, 6}, append(woven(), q...))
	}
	if r, e := mutate.Mutate(x, c, p, q, draw.New(nil), 9); e != api.OK || len(r) != 7 || r[0].Call != cMake || r[1].Call != cMake {
		t.Error("without draws:", r, e)
	}
	// Those that leave it as it is.
	comes(t, x, drawn(x, c, p, q, 6), []int{0}, p)
	comes(t, x, drawn(x, c, p, q, 6), []int{3, 2}, p)
	comes(t, x, drawn(x, c, p, q, -1), []int{0}, p)
	comes(t, x, drawn(x, c, nil, q, 6), []int{1}, nil)
	comes(t, x, drawn(x, c, nil, q, 6), []int{2}, nil)
	comes(t, x, drawn(x, c, nil, q, 6), []int{3, 0}, q)
	none := api.Table{}
	for which := range 3 {
		comes(t, none, drawn(none, draw.Weigh(none, nil), nil, nil, 9), []int{which}, nil)
	}
}
