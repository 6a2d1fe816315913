package draw_test

import (
	"math"
	"math/big"
	"testing"

	"dredger/api"
	"dredger/draw"
)

// numbers is a source of the same numbers each time.
type numbers uint64

func (n *numbers) next(below int) int {
	*n = *n*6364136223846793005 + 1442695040888963407
	return int(uint64(*n)>>33) % below
}

// pick is one of a list.
func pick[T any](n *numbers, list ...T) T { return list[n.next(len(list))] }

// wide is a number of any width, often one at an edge.
func wide(n *numbers) int {
	v := n.next(1<<31)<<33 ^ n.next(1<<31)<<11 ^ n.next(1<<31)
	return pick(n, v, v>>n.next(64), n.next(9)-4, math.MinInt+n.next(3), math.MaxInt-n.next(3))
}

// modelNext is the rest by n of a number from 0 to below 2^64.
func modelNext(number, n int) int {
	v := big.NewInt(int64(number))
	if v.Sign() < 0 {
		v.Add(v, new(big.Int).Lsh(big.NewInt(1), 64))
	}
	return int(v.Mod(v, big.NewInt(int64(n))).Int64())
}

// TestCompareNext: draws against a model that works with numbers of any size.
func TestCompareNext(t *testing.T) {
	n := numbers(2)
	for range 3000 {
		var l []int
		for range n.next(8) {
			l = append(l, wide(&n))
		}
		d := draw.New(l)
		rest := l
		for range 12 {
			below, want := wide(&n), 0
			if below >= 1 && len(rest) > 0 {
				want, rest = modelNext(rest[0], below), rest[1:]
			}
			if got := d.Next(below); got != want || d.Used() != len(l)-len(rest) {
				t.Fatalf("%v: Next(%d) = %d, %d used, want %d, %d", l, below, got, d.Used(), want, len(l)-len(rest))
			}
		}
	}
}

// modelWeight is Weight, as the chapter says it: each time anew from the table and the programs.
func modelWeight(t api.Table, l []api.Program, a, b int) int {
	there := func(n int) bool { return 0 <= n && n < len(t.Calls) }
	if !there(b) || a >= 0 && !there(a) {
		return 0
	}
	isRes := func(n int) bool {
		return n >= 0 && n < len(t.Types) && t.Types[n].Kind == api.TypeRes && t.Types[n].Of == t.Calls[a].Ret
	}
	use := 0
	for _, n := range t.Calls[b].Args {
		if a < 0 || t.Calls[a].Ret == "" {
			break
		}
		if isRes(n) {
			use = 4
		}
		if n >= 0 && n < len(t.Types) && t.Types[n].Kind == api.TypePtr && len(t.Types[n].Elems) > 0 && isRes(t.Types[n].Elems[0]) {
			use = 4
		}
	}
	times := 0
	for _, p := range l {
		for i := range p {
			if p[i].Call == b && (a < 0 && i == 0 || a >= 0 && i > 0 && p[i-1].Call == a) {
				times++
			}
		}
	}
	return 1 + use + 2*min(times, 10)
}

// modelPick is a call for each unit of the weights, of which one is taken.
func modelPick(t api.Table, l []api.Program, a, number int) (int, bool) {
	var units []int
	for b := range t.Calls {
		for range modelWeight(t, l, a, b) {
			units = append(units, b)
		}
	}
	if len(units) == 0 {
		return 0, false
	}
	return units[modelNext(number, len(units))], true
}

// place is a place in a list, or (seldom) one beside it.
func place(n *numbers, length int) int {
	if length == 0 || n.next(12) == 0 {
		return pick(n, -1, length, math.MinInt, math.MaxInt)
	}
	return n.next(length)
}

// anyTable is a table however it is.
func anyTable(n *numbers) (t api.Table) {
	name := func() string { return pick(n, "", "r", "s") }
	count := n.next(8)
	for range count {
		y := api.Type{Kind: pick(n, api.TypeRes, api.TypePtr, n.next(14)-1), Of: name()}
		for range pick(n, 0, 1, 1, 1, 2) {
			y.Elems = append(y.Elems, place(n, count))
		}
		t.Types = append(t.Types, y)
	}
	for range n.next(5) {
		c := api.Call{Ret: name()}
		for range n.next(4) {
			c.Args = append(c.Args, place(n, count))
		}
		t.Calls = append(t.Calls, c)
	}
	return t
}

// TestCompareChoice: weights and picks of any tables and programs.
func TestCompareChoice(t *testing.T) {
	n := numbers(3)
	met := map[int]int{}
	for range 4000 {
		x := anyTable(&n)
		var l []api.Program
		for range n.next(6) {
			var p api.Program
			for range n.next(pick(&n, 4, 40)) {
				p = append(p, api.Step{Call: place(&n, len(x.Calls))})
			}
			l = append(l, p)
		}
		c := draw.Weigh(x, l)
		for a := -2; a < len(x.Calls)+2; a++ {
			for b := -2; b < len(x.Calls)+2; b++ {
				want := modelWeight(x, l, a, b)
				if got := c.Weight(a, b); got != want {
					t.Fatalf("%+v, %+v: Weight(%d, %d) = %d, want %d", x, l, a, b, got, want)
				}
				met[want]++
			}
			number := wide(&n)
			want, ok := modelPick(x, l, a, number)
			if got, is := c.Pick(draw.New([]int{number}), a); got != want || is != ok {
				t.Fatalf("%+v, %+v: Pick(%d) of %d = %d, %v, want %d, %v", x, l, a, number, got, is, want, ok)
			}
		}
	}
	for _, w := range []int{0, 1, 3, 5, 7, 9, 21, 25} {
		if met[w] < 100 {
			t.Errorf("too few of weight %d: %v", w, met)
		}
	}
	if met[23] < 20 || len(met) != 14 {
		t.Error(met)
	}
}
