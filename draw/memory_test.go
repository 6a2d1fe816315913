package draw_test

import (
	"reflect"
	"testing"

	"dredger/api"
	"dredger/draw"
)

// scrawl writes over all of a list, its spare room too.
func scrawl[T any](l []T, with T) {
	l = l[:cap(l)]
	for i := range l {
		l[i] = with
	}
}

// TestListIsApart: what is done to the list afterwards, draws can't tell; and they change nothing of it.
func TestListIsApart(t *testing.T) {
	room := []int{7, 3, 9, 9}
	l := room[:2]
	d := draw.New(l)
	if d.Next(10) != 7 || !reflect.DeepEqual(room, []int{7, 3, 9, 9}) {
		t.Error(room)
	}
	scrawl(l, 5)
	if a, b := d.Next(10), d.Next(10); a != 3 || b != 0 || d.Used() != 2 {
		t.Error(a, b, d.Used())
	}
}

// all is the weights of a choice, one call more on each side than there are.
func all(c *draw.Choice, calls int) (l []int) {
	for a := -1; a <= calls; a++ {
		for b := -1; b <= calls; b++ {
			l = append(l, c.Weight(a, b))
		}
	}
	return l
}

// TestChoiceIsApart: what is done to the table and the programs afterwards, a choice can't tell; and it changes nothing of them.
func TestChoiceIsApart(t *testing.T) {
	x := sample()
	programs := []api.Program{program(0, 2, 2), program(2, taker(yFD)), program(1, taker(yPid), 0)}
	want := all(draw.Weigh(x, programs), len(x.Calls))
	c := draw.Weigh(x, programs)
	all(c, len(x.Calls))
	c.Pick(draw.New([]int{5}), -1)
	if !reflect.DeepEqual(x, sample()) || !reflect.DeepEqual(programs, []api.Program{program(0, 2, 2), program(2, taker(yFD)), program(1, taker(yPid), 0)}) {
		t.Errorf("%+v, %+v", x, programs)
	}
	for _, p := range programs {
		scrawl(p, api.Step{Call: 1})
	}
	for i := range x.Types {
		scrawl(x.Types[i].Elems, yPid)
		scrawl(x.Types[i].Values, 9)
	}
	for i := range x.Calls {
		scrawl(x.Calls[i].Args, yPid)
		x.Calls[i].Ret = "pid"
	}
	scrawl(x.Calls, api.Call{Ret: "fd", Args: []int{yFD}})
	scrawl(x.Types, api.Type{Kind: api.TypeRes, Of: "fd"})
	scrawl(programs, program(0, 0))
	if got := all(c, len(sample().Calls)); !reflect.DeepEqual(got, want) {
		t.Errorf("%v, it was %v", got, want)
	}
}

// TestPickTellsNothing: a pick changes nothing that a later one could tell, but for the draws.
func TestPickTellsNothing(t *testing.T) {
	x := sample()
	c := draw.Weigh(x, nil)
	want := all(c, len(x.Calls))
	d := draw.New(make([]int, 100))
	for i := range 100 {
		c.Pick(d, i%5-1)
	}
	if got := all(c, len(x.Calls)); !reflect.DeepEqual(got, want) || d.Used() != 100 {
		t.Error(got, d.Used())
	}
}
