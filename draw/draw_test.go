package draw_test

import (
	"math"
	"testing"

	"dredger/draw"
)

// asked is a call of Next, what it must answer, and how many are used then.
type asked struct{ n, want, used int }

func nexts(t *testing.T, l []int, calls ...asked) {
	t.Helper()
	d := draw.New(l)
	if d.Used() != 0 {
		t.Errorf("%v: %d are used", l, d.Used())
	}
	for i, c := range calls {
		if got := d.Next(c.n); got != c.want || d.Used() != c.used {
			t.Errorf("%v, call %d: Next(%d) = %d, %d used, want %+v", l, i, c.n, got, d.Used(), c)
		}
	}
}

// TestNext: P19.1, ordinary lists, and those that are exhausted.
func TestNext(t *testing.T) {
	nexts(t, []int{7, 3}, asked{5, 2, 1}, asked{2, 1, 2}, asked{9, 0, 2}, asked{1, 0, 2}, asked{math.MaxInt, 0, 2})
	nexts(t, []int{0, 1, 2, 3}, asked{2, 0, 1}, asked{2, 1, 2}, asked{2, 0, 3}, asked{2, 1, 4}, asked{2, 0, 4})
	nexts(t, nil, asked{1, 0, 0}, asked{8, 0, 0}, asked{0, 0, 0}, asked{-8, 0, 0})
	nexts(t, []int{}, asked{8, 0, 0})
	nexts(t, []int{5, 5, 5}, asked{5, 0, 1}, asked{6, 5, 2}, asked{4, 1, 3})
}

// TestNextTakes: below 1 nothing is taken; of 1 a number is, though there is but one answer.
func TestNextTakes(t *testing.T) {
	nexts(t, []int{7, 9}, asked{0, 0, 0}, asked{-1, 0, 0}, asked{math.MinInt, 0, 0}, asked{10, 7, 1}, asked{0, 0, 1}, asked{1, 0, 2}, asked{10, 0, 2})
}

// TestNextWide: numbers below 0 are those and 2^64.
func TestNextWide(t *testing.T) {
	for _, c := range []struct{ number, n, want int }{
		{-1, 10, 5}, // 18446744073709551615
		{-1, 2, 1},
		{-1, 1, 0},
		{-1, math.MaxInt, 1},
		{-2, 10, 4},
		{-2, math.MaxInt, 0},
		{-7, 1 << 31, 1<<31 - 7},
		{math.MinInt, 10, 8}, // 9223372036854775808
		{math.MinInt, math.MaxInt, 1},
		{math.MinInt, 3, 2},
		{math.MinInt + 1, 10, 9},
		{math.MaxInt, 10, 7},
		{math.MaxInt, math.MaxInt, 0},
		{math.MaxInt, math.MaxInt - 1, 1},
		{math.MaxInt - 1, math.MaxInt, math.MaxInt - 1},
		{1 << 40, 1 << 31, 0},
		{1<<40 + 3, 1 << 31, 3},
	} {
		nexts(t, []int{c.number}, asked{c.n, c.want, 1})
	}
}

// TestNobodyMadeDraws: of draws that no call made there is nothing.
func TestNobodyMadeDraws(t *testing.T) {
	for _, d := range []*draw.Draws{nil, {}, new(draw.Draws)} {
		if a, b, c := d.Next(5), d.Next(0), d.Next(math.MaxInt); a != 0 || b != 0 || c != 0 || d.Used() != 0 || d.Made() {
			t.Error(a, b, c, d.Used(), d.Made())
		}
	}
	for _, l := range [][]int{nil, {}, {1}} {
		if d := draw.New(l); !d.Made() {
			t.Error("not made:", l)
		}
	}
}

// TestNoughtsBehind: P19.4.
func TestNoughtsBehind(t *testing.T) {
	n := numbers(1)
	for range 2000 {
		var l []int
		for range n.next(6) {
			l = append(l, wide(&n))
		}
		a, b := draw.New(l), draw.New(append(l[:len(l):len(l)], make([]int, n.next(5))...))
		for range 12 {
			below := pick(&n, 1, 2, 7, 1<<31, math.MaxInt, 0, -3)
			if x, y := a.Next(below), b.Next(below); x != y {
				t.Fatalf("%v: Next(%d) = %d, and %d with noughts behind", l, below, x, y)
			}
		}
		if a.Used() > len(l) || b.Used() < a.Used() {
			t.Fatal(l, a.Used(), b.Used())
		}
	}
}

// TestDrawsApart: draws of one list take nothing from one another.
func TestDrawsApart(t *testing.T) {
	l := []int{1, 2, 3}
	a, b := draw.New(l), draw.New(l)
	if a.Next(9) != 1 || a.Next(9) != 2 || b.Next(9) != 1 || a.Next(9) != 3 || b.Next(9) != 2 || a.Used() != 3 || b.Used() != 2 {
		t.Error(a.Used(), b.Used())
	}
}
