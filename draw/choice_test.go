package draw_test

import (
	"math"
	"slices"
	"testing"

	"dredger/api"
	"dredger/draw"
)

// Places of types in sample.
const (
	yInt = iota
	yFD
	yPid
	yPtrInt
	yPtrFD
	yPtrPtr
	yArray
	yPtrArray
	yStruct
	yPtrStruct
	yUnion
	yLen
)

// sample is a table of calls over those types: call 0 makes an fd, call 1 a pid, call 2 nothing; one call more for each type, which takes it.
func sample() api.Table {
	t := api.Table{
		Types: []api.Type{
			yInt:       {Kind: api.TypeInt, Size: 1, Hi: 9, Of: "fd"},
			yFD:        {Kind: api.TypeRes, Size: 4, Of: "fd", Values: []int{0}},
			yPid:       {Kind: api.TypeRes, Size: 4, Of: "pid", Values: []int{0}},
			yPtrInt:    {Kind: api.TypePtr, Size: 8, Dir: 1, Elems: []int{yInt}},
			yPtrFD:     {Kind: api.TypePtr, Size: 8, Dir: 2, Elems: []int{yFD}},
			yPtrPtr:    {Kind: api.TypePtr, Size: 8, Dir: 1, Elems: []int{yPtrFD}},
			yArray:     {Kind: api.TypeArray, Hi: 1, Elems: []int{yFD}},
			yPtrArray:  {Kind: api.TypePtr, Size: 8, Dir: 1, Elems: []int{yArray}},
			yStruct:    {Kind: api.TypeStruct, Of: "fd", Elems: []int{yFD}, Names: []string{"a"}},
			yPtrStruct: {Kind: api.TypePtr, Size: 8, Dir: 1, Elems: []int{yStruct}},
			yUnion:     {Kind: api.TypeUnion, Of: "fd", Elems: []int{yFD}, Names: []string{"a"}},
			yLen:       {Kind: api.TypeLen, Size: 4, Of: "fd"},
		},
		Calls: []api.Call{{Name: "open", Ret: "fd"}, {Name: "fork", Ret: "pid"}, {Name: "none"}},
	}
	for n := range t.Types {
		t.Calls = append(t.Calls, taking(n))
	}
	return t
}

// taking is a call that takes those types.
func taking(places ...int) api.Call {
	return api.Call{Name: "take", Args: places, Names: make([]string, len(places))}
}

// taker is the place of sample's call that takes a type.
func taker(n int) int { return 3 + n }

func program(calls ...int) (p api.Program) {
	for _, c := range calls {
		p = append(p, api.Step{Call: c})
	}
	return p
}

func weighs(t *testing.T, c *draw.Choice, a, b, want int) {
	t.Helper()
	if got := c.Weight(a, b); got != want {
		t.Errorf("Weight(%d, %d) = %d, want %d", a, b, got, want)
	}
}

// TestWeightOfUse: P19.2, calls that take what the one ahead makes.
func TestWeightOfUse(t *testing.T) {
	x := sample()
	c := draw.Weigh(x, nil)
	for a := -2; a < len(x.Calls); a++ {
		for b := range x.Calls {
			want := 1
			if a == 0 && (b == taker(yFD) || b == taker(yPtrFD)) || a == 1 && b == taker(yPid) {
				want = 5
			}
			weighs(t, c, a, b, want)
		}
	}
}

// TestWeightOfUseOnce: several such arguments count as one does, wherever it stands.
func TestWeightOfUseOnce(t *testing.T) {
	x := sample()
	x.Calls = []api.Call{{Ret: "fd"}, taking(yFD, yFD, yPtrFD), taking(yInt, yPid, yUnion, yFD), taking(yInt, yPid), taking(yPid, yPtrFD, yInt), {Ret: "fd", Args: []int{yFD}}, {Ret: "f"}, {Ret: "fd2"}, {Ret: "FD"}}
	c := draw.Weigh(x, nil)
	for _, w := range [][3]int{
		{0, 0, 1}, {0, 1, 5}, {0, 2, 5}, {0, 3, 1}, {0, 4, 5}, {0, 5, 5}, {5, 5, 5}, {5, 1, 5}, {1, 5, 1}, {6, 1, 1}, {7, 1, 1}, {8, 1, 1}, {-1, 1, 1}, {-1, 5, 1},
	} {
		weighs(t, c, w[0], w[1], w[2])
	}
}

// TestWeightOfNoResult: a call that makes nothing is not used, not even by a resource without a name.
func TestWeightOfNoResult(t *testing.T) {
	x := api.Table{
		Types: []api.Type{{Kind: api.TypeRes, Size: 4, Values: []int{0}}, {Kind: api.TypePtr, Size: 8, Dir: 1, Elems: []int{0}}},
		Calls: []api.Call{{}, taking(0), taking(1)},
	}
	c := draw.Weigh(x, nil)
	for a := -1; a < 3; a++ {
		for b := range 3 {
			weighs(t, c, a, b, 1)
		}
	}
}

// TestWeightOfTimes: P19.2, calls that stood behind others in programs.
func TestWeightOfTimes(t *testing.T) {
	x := sample()
	c := draw.Weigh(x, []api.Program{program(0, 2, 2, 2), program(2), nil, program(2, 0, taker(yFD), 2), program(0, taker(yFD), taker(yFD), 0)})
	for _, w := range [][3]int{
		{-1, 0, 5}, {-1, 2, 5}, {-1, 1, 1}, {-1, taker(yFD), 1},
		{0, 2, 3}, {2, 2, 5}, {2, 0, 3}, {0, taker(yFD), 9}, {taker(yFD), 2, 3}, {taker(yFD), taker(yFD), 3}, {taker(yFD), 0, 3}, {0, 0, 1},
	} {
		weighs(t, c, w[0], w[1], w[2])
	}
	for _, a := range []int{-2, -64, math.MinInt} {
		weighs(t, c, a, 0, 5)
		weighs(t, c, a, 1, 1)
	}
}

// TestWeightOfManyTimes: up to 10 times count, over all programs together.
func TestWeightOfManyTimes(t *testing.T) {
	x := sample()
	for _, n := range []int{0, 1, 9, 10, 11, 12, 300} {
		want := 1 + 2*min(n, 10)
		var apart []api.Program
		for range n {
			apart = append(apart, program(2, 1))
		}
		c := draw.Weigh(x, apart)
		weighs(t, c, -1, 2, want)
		weighs(t, c, 2, 1, want)
		weighs(t, c, 1, 2, 1)
		weighs(t, draw.Weigh(x, []api.Program{program(make([]int, n+1)...)}), 0, 0, want)
		used := draw.Weigh(x, []api.Program{program(slices.Repeat([]int{0, taker(yPtrFD)}, n)...)})
		weighs(t, used, 0, taker(yPtrFD), want+4)
		weighs(t, used, taker(yPtrFD), 0, 1+2*min(max(n-1, 0), 10))
		weighs(t, used, -1, 0, 1+2*min(n, 1))
	}
}

// TestWeightOfMissing: calls that there are not, asked for, or in programs.
func TestWeightOfMissing(t *testing.T) {
	x := api.Table{Calls: []api.Call{{}, {}}}
	c := draw.Weigh(x, []api.Program{program(0, -1, 1), program(-1, 0), program(2, 1, 2, 1), program(math.MinInt, 0, math.MaxInt), program(1, -2, -1, 0)})
	for _, w := range [][3]int{
		{-1, 0, 3}, {-1, 1, 3}, {-2, 0, 3}, {0, 0, 1}, {0, 1, 1}, {1, 0, 1}, {1, 1, 1},
		{-1, 2, 0}, {-1, -1, 0}, {0, 2, 0}, {0, -1, 0}, {2, 0, 0}, {2, 1, 0}, {2, 2, 0}, {0, math.MinInt, 0}, {0, math.MaxInt, 0}, {math.MaxInt, 0, 0}, {math.MinInt, math.MinInt, 0},
	} {
		weighs(t, c, w[0], w[1], w[2])
	}
	none := draw.Weigh(api.Table{}, []api.Program{program(0, 0, 0)})
	weighs(t, none, -1, 0, 0)
	weighs(t, none, 0, 0, 0)
}

// TestWeightOfBrokenTables: what a table has not is no resource.
func TestWeightOfBrokenTables(t *testing.T) {
	fd := api.Type{Kind: api.TypeRes, Of: "fd"}
	x := api.Table{
		Types: []api.Type{
			{Kind: api.TypePtr},
			{Kind: api.TypePtr, Elems: []int{-1}},
			{Kind: api.TypePtr, Elems: []int{99}},
			{Kind: api.TypePtr, Elems: []int{3}},
			{Kind: api.TypePtr, Elems: []int{6}}, // which stands behind it
			{Of: "fd"},
			fd,
			{Kind: 99, Of: "fd", Elems: []int{6}},
			{Kind: api.TypePtr, Elems: []int{math.MinInt, 6}},
			{Kind: api.TypeRes, Of: "fd", Elems: []int{-5}},
		},
		Calls: []api.Call{{Ret: "fd", Number: -4}, taking(-1), taking(10), taking(math.MinInt), taking(math.MaxInt)},
	}
	for n := range x.Types {
		x.Calls = append(x.Calls, taking(n))
	}
	x.Calls = append(x.Calls, taking(-1, 0, 1, 2, 3, 99, 6), api.Call{Args: []int{-1, 6}})
	c := draw.Weigh(x, nil)
	for b := range x.Calls {
		want := 1
		if slices.Contains([]int{5 + 4, 5 + 6, 5 + 9, 15, 16}, b) {
			want = 5
		}
		weighs(t, c, 0, b, want)
	}
}

// TestManyCalls: a table may have more calls than those that may be.
func TestManyCalls(t *testing.T) {
	x := api.Table{Calls: make([]api.Call, 100000)}
	c := draw.Weigh(x, []api.Program{program(99999, 0, 99999)})
	weighs(t, c, -1, 99999, 3)
	weighs(t, c, 99999, 0, 3)
	weighs(t, c, 99998, 0, 1)
	weighs(t, c, 0, 100000, 0)
	for draws, want := range map[int]int{0: 0, 77: 77, 100000: 99999, 99998: 99998, 100001: 99999, 100002: 0} {
		picks(t, c, -1, draws, want)
	}
}

func picks(t *testing.T, c *draw.Choice, a, number, want int) {
	t.Helper()
	d := draw.New([]int{number, 5})
	if b, ok := c.Pick(d, a); b != want || !ok || d.Used() != 1 {
		t.Errorf("Pick(%d) of %d = %d, %v, %d used, want %d", a, number, b, ok, d.Used(), want)
	}
}

// TestPick: P19.2, P19.3: each call by as many draws as it weighs, in order.
func TestPick(t *testing.T) {
	x := sample()
	c := draw.Weigh(x, []api.Program{program(0, 2, 2, 2), program(2, 0, taker(yFD), 2), program(0, taker(yFD), 14)})
	for a := -2; a < len(x.Calls); a++ {
		number := 0
		for b := range x.Calls {
			for range c.Weight(a, b) {
				picks(t, c, a, number, b)
				number++
			}
		}
		picks(t, c, a, number, 0)
		picks(t, c, a, 2*number-1, len(x.Calls)-1)
		if b, ok := c.Pick(draw.New(nil), a); b != 0 || !ok {
			t.Error("without draws:", a, b, ok)
		}
	}
}

// TestPickOfOne: a draw is taken, though there is but one call.
func TestPickOfOne(t *testing.T) {
	c := draw.Weigh(api.Table{Calls: []api.Call{{Ret: "fd"}}}, nil)
	for _, number := range []int{0, 1, 7, -1, math.MinInt, math.MaxInt} {
		picks(t, c, -1, number, 0)
		picks(t, c, 0, number, 0)
	}
}

// TestPickOfWide: a number below 0 is that and 2^64.
func TestPickOfWide(t *testing.T) {
	c := draw.Weigh(api.Table{Calls: make([]api.Call, 10)}, nil)
	picks(t, c, -1, -1, 5)
	picks(t, c, 3, math.MinInt, 8)
	picks(t, c, math.MinInt, -2, 4)
}

// TestPickNothing: where nothing may be picked, nothing is taken.
func TestPickNothing(t *testing.T) {
	none, two := draw.Weigh(api.Table{}, nil), draw.Weigh(api.Table{Calls: make([]api.Call, 2)}, nil)
	for _, x := range []struct {
		c *draw.Choice
		a int
	}{{none, -1}, {none, 0}, {none, math.MinInt}, {two, 2}, {two, math.MaxInt}, {nil, -1}, {nil, 0}, {&draw.Choice{}, -1}, {&draw.Choice{}, 0}} {
		d := draw.New([]int{1, 1})
		if b, ok := x.c.Pick(d, x.a); b != 0 || ok || d.Used() != 0 {
			t.Error(x, b, ok, d.Used())
		}
	}
	for _, d := range []*draw.Draws{nil, {}} {
		for _, c := range []*draw.Choice{two, none, nil, {}} {
			if b, ok := c.Pick(d, -1); b != 0 || ok {
				t.Error(b, ok)
			}
		}
	}
}

// TestNobodyMadeChoice: of a choice that no call made there is nothing.
func TestNobodyMadeChoice(t *testing.T) {
	for _, c := range []*draw.Choice{nil, {}} {
		for _, a := range []int{-1, 0, 1, math.MinInt, math.MaxInt} {
			weighs(t, c, a, 0, 0)
			weighs(t, c, a, -1, 0)
		}
		if c.Made() {
			t.Error("made")
		}
	}
	if !draw.Weigh(api.Table{}, nil).Made() || !draw.Weigh(sample(), nil).Made() {
		t.Error("not made")
	}
}
