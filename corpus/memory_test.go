package corpus_test

import (
	"slices"
	"testing"

	"dredger/api"
	"dredger/corpus"
)

// scrawl writes over a list and the room behind it.
func scrawl(list []int) {
	list = list[:cap(list)]
	for i := range list {
		list[i] = -7
	}
}

// roomy is a list with room behind it, and all of it.
func roomy(list ...int) ([]int, []int) {
	all := append(slices.Clone(list), 71, 72, 73)
	return all[:len(list)], all
}

func TestEntriesAreNotKept(t *testing.T) {
	d := newDisk(t, 30)
	c := open(t, d)
	points, allPoints := roomy(1, 2)
	picks, allPicks := roomy(3, 4)
	want := api.Entry{Key: "f", Points: []int{1, 2}, Fault: 1, Picks: []int{3, 4}}
	if e := c.Put(api.Entry{Key: "f", Points: points, Fault: 1, Picks: picks}); e != api.OK {
		t.Fatal(e)
	}
	if !slices.Equal(allPoints, []int{1, 2, 71, 72, 73}) || !slices.Equal(allPicks, []int{3, 4, 71, 72, 73}) {
		t.Error("Put has changed its argument")
	}
	scrawl(points)
	scrawl(picks)
	has(t, "behind a change of what was put", c, list{want})
	for range 20 { // till it is compacted
		if e := c.Put(api.Entry{Key: "a", Points: []int{5}}); e != api.OK {
			t.Fatal(e)
		}
	}
	has(t, "compacted", open(t, d), list{{Key: "a", Points: []int{5}}, want})
}

func TestAnswersAreNew(t *testing.T) {
	d := newDisk(t, 30)
	want := list{{Key: "a", Points: []int{5, 6}}, {Key: "f", Points: []int{1, 2}, Fault: 1, Picks: []int{3, 4}}}
	c := open(t, d)
	for _, e := range want {
		c.Put(e)
	}
	for _, c := range []*corpus.Corpus{c, open(t, d)} {
		x, _ := c.Get("f")
		y, _ := c.Get("f")
		scrawl(x.Points)
		if !slices.Equal(x.Picks, []int{3, 4}) {
			t.Error("two lists of an entry share memory")
		}
		scrawl(x.Picks)
		if !sameEntry(y, want[1]) {
			t.Error("two answers share memory")
		}
		keys := c.Keys()
		keys = keys[:cap(keys)]
		for i := range keys {
			keys[i] = "scrawl"
		}
		scrawl(c.Points())
		has(t, "behind a change of answers", c, want)
	}
}

func TestListsAreNotChanged(t *testing.T) {
	for _, f := range []func(a, b []int) []int{corpus.Merge, corpus.Without} {
		for _, x := range [][2][]int{{{3, 1, 3}, {2, 1}}, {{3, 1}, nil}, {nil, {2, 1}}, {{1, 2}, {3}}, {{1, 2}, {1, 2}}} {
			a, allA := roomy(x[0]...)
			b, allB := roomy(x[1]...)
			got := f(a, b)
			wasA, wasB := slices.Clone(allA), slices.Clone(allB)
			if !slices.Equal(a, x[0]) || !slices.Equal(b, x[1]) || !slices.Equal(allA[len(a):], []int{71, 72, 73}) || !slices.Equal(allB[len(b):], []int{71, 72, 73}) {
				t.Errorf("%v, %v were changed", x[0], x[1])
			}
			kept := slices.Clone(got)
			again := f(a, b)
			scrawl(again)
			if !slices.Equal(allA, wasA) || !slices.Equal(allB, wasB) || !slices.Equal(got, kept) {
				t.Errorf("the answer to %v, %v is shared", x[0], x[1])
			}
		}
	}
}
