package mutate_test

import (
	"testing"

	"dredger/api"
	"dredger/draw"
	"dredger/mutate"
	"dredger/prog"
)

// unmade is draws that no call made.
func unmade() []*draw.Draws { return []*draw.Draws{nil, {}} }

// wrongs is programs that are none of sample's, with the number that says why.
func wrongs() map[api.Errno]api.Program {
	return map[api.Errno]api.Program{
		api.ErrFull:  make(api.Program, api.MaxCalls+1),
		api.ErrCall:  {step(5)},
		api.ErrCount: {step(cFork), step(cMake, value(0))},
		api.ErrKind:  {step(cIn, value(0), value(0), value(0))},
		api.ErrValue: {step(cUse, value(0), value(0), value(7))},
		api.ErrRef:   {step(cFork), use(ref(0), value(7))},
		api.ErrLen:   {step(cIn, value(1), ptr(), value(0))},
	}
}

// badTable is one that may not be.
func badTable() api.Table {
	return api.Table{Types: []api.Type{{Kind: api.TypeInt, Size: 3}}, Calls: []api.Call{{}}}
}

// all is each call of the package; the first two are handed a choice.
func all(x api.Table, c *draw.Choice, p, q api.Program, most int) []mutation {
	return []mutation{insert(x, c, p, most), drawn(x, c, p, q, most), remove(x, p), change(x, p), splice(x, p, q, most)}
}

// TestUnmade: ErrNil is ahead of all else.
func TestUnmade(t *testing.T) {
	x := sample(t)
	c := draw.Weigh(x, nil)
	wrong := api.Program{step(5)}
	for _, d := range unmade() {
		for _, m := range all(x, c, woven(), woven(), 9) {
			refuses(t, m, d, api.ErrNil)
		}
		for _, m := range all(x, c, nil, nil, 0) {
			refuses(t, m, d, api.ErrNil)
		}
		for _, m := range all(badTable(), nil, wrong, wrong, -1) {
			refuses(t, m, d, api.ErrNil)
		}
	}
	d := draw.New([]int{1, 1, 1})
	for _, c := range []*draw.Choice{nil, {}} {
		for _, most := range []int{-1, 0, 9} {
			for _, m := range all(x, c, nil, nil, most)[:2] {
				refuses(t, m, d, api.ErrNil)
			}
			for _, m := range all(badTable(), c, wrong, wrong, most)[:2] {
				refuses(t, m, d, api.ErrNil)
			}
			for _, m := range all(api.Table{}, c, nil, nil, most)[:2] {
				refuses(t, m, d, api.ErrNil)
			}
		}
	}
}

// TestBadTable: ErrArg is ahead of what is wrong with programs.
func TestBadTable(t *testing.T) {
	d := draw.New([]int{1, 1, 1})
	for _, p := range []api.Program{nil, {step(0)}, {step(5)}, make(api.Program, 65)} {
		for _, most := range []int{-1, 0, 9} {
			for _, m := range all(badTable(), draw.Weigh(badTable(), nil), p, p, most) {
				refuses(t, m, d, api.ErrArg)
			}
		}
	}
}

// TestChoiceOfAnother: a choice must be one of as many calls.
func TestChoiceOfAnother(t *testing.T) {
	x := sample(t)
	d := draw.New([]int{1, 1, 1})
	for _, calls := range []int{0, 1, len(x.Calls) - 1, len(x.Calls) + 1, 64, 1000} {
		c := draw.Weigh(api.Table{Calls: make([]api.Call, calls)}, nil)
		for _, p := range []api.Program{nil, woven(), {step(5)}, make(api.Program, 65)} {
			for _, most := range []int{0, 9} {
				for _, m := range all(x, c, p, p, most)[:2] {
					refuses(t, m, d, api.ErrArg)
				}
			}
		}
	}
	for _, m := range all(api.Table{}, draw.Weigh(x, nil), nil, nil, 9)[:2] {
		refuses(t, m, d, api.ErrArg)
	}
	// Of another table with as many calls it may be.
	c := draw.Weigh(api.Table{Calls: make([]api.Call, len(x.Calls))}, nil)
	for range 2 {
		for _, m := range all(x, c, woven(), woven(), 9) {
			if p, e := m(d); e != api.OK || prog.Check(x, p) != nil {
				t.Error(p, e)
			}
		}
	}
}

// TestWrongPrograms: p's number, then q's, whichever mutation is drawn, and whether or not it would do anything.
func TestWrongPrograms(t *testing.T) {
	x := sample(t)
	c := draw.Weigh(x, nil)
	for why, p := range wrongs() {
		for which := range 4 {
			d := draw.New([]int{which, 0, 0})
			for _, most := range []int{-1, 0, 9, 64} {
				for _, m := range all(x, c, p, woven(), most) {
					refuses(t, m, d, why)
				}
				for _, other := range wrongs() {
					for _, m := range all(x, c, p, other, most) {
						refuses(t, m, d, why)
					}
				}
				refuses(t, splice(x, woven(), p, most), d, why)
				refuses(t, splice(x, nil, p, most), d, why)
				refuses(t, splice(x, make(api.Program, 64), p, most), d, why)
				refuses(t, drawn(x, c, woven(), p, most), d, why)
				refuses(t, drawn(x, c, nil, p, most), d, why)
			}
		}
	}
	if p, e := mutate.Insert(x, c, make(api.Program, 65), draw.New(nil), 65); len(p) != 0 || e != api.ErrFull {
		t.Error(len(p), e)
	}
}
