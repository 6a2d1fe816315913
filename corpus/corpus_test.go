package corpus_test

import (
	"bytes"
	"math"
	"slices"
	"strings"
	"testing"

	"dredger/api"
	"dredger/corpus"
	"dredger/disk"
)

// upTo is the numbers from 0 on.
func upTo(n int) []int {
	var all []int
	for i := range n {
		all = append(all, i)
	}
	return all
}

func TestOpenRefused(t *testing.T) {
	for _, d := range []*disk.Disk{nil, {}} {
		if c, e := corpus.Open(d); c != nil || e != api.ErrNil {
			t.Error("Open of no disk:", c, e)
		}
	}
	for n := 1; n < 4; n++ {
		if c, e := corpus.Open(newDisk(t, n)); c != nil || e != api.ErrArg {
			t.Errorf("Open of %d sectors: %v, %v", n, c, e)
		}
	}
	for _, n := range []int{4, 5, 100, api.MaxSectors} {
		has(t, "a new one", open(t, newDisk(t, n)), nil)
	}
}

func TestNoCorpus(t *testing.T) {
	for _, c := range []*corpus.Corpus{nil, {}} {
		if c.Put(api.Entry{Key: "a"}) != api.ErrNil || c.Put(api.Entry{}) != api.ErrNil || c.Delete("a") != api.ErrNil || c.Delete("") != api.ErrNil {
			t.Error("no ErrNil")
		}
		for _, key := range []string{"a", "A", ""} {
			if e, why := c.Get(key); why != api.ErrNil || !sameEntry(e, api.Entry{}) {
				t.Error("Get:", e, why)
			}
		}
		if len(c.Keys()) != 0 || len(c.Points()) != 0 {
			t.Error("keys or points of nothing")
		}
	}
}

// TestExample is the chapter's.
func TestExample(t *testing.T) {
	c := open(t, newDisk(t, 20))
	if c.Put(api.Entry{Key: "a", Points: []int{3, 5}}) != api.OK || c.Put(api.Entry{Key: "b", Points: []int{5, 9}}) != api.OK {
		t.Fatal("Put")
	}
	if p := c.Points(); !slices.Equal(p, []int{3, 5, 9}) {
		t.Error(p)
	}
	if c.Delete("a") != api.OK || !slices.Equal(c.Points(), []int{5, 9}) {
		t.Error(c.Points())
	}
}

func wrongKeys() []string {
	keys := []string{"", strings.Repeat("a", api.MaxKey+1), strings.Repeat("a", 5000), "a b", "aB", "a\x00", "a\xff", "\u00e4", "a\n", "-a", "a_"}
	for c := range 256 {
		if !strings.Contains("abcdefghijklmnopqrstuvwxyz0123456789", string([]byte{byte(c)})) {
			keys = append(keys, string([]byte{byte(c)}), string([]byte{'k', byte(c), '1'}))
		}
	}
	return keys
}

func TestWrongKeys(t *testing.T) {
	d := newDisk(t, 20)
	c := open(t, d)
	c.Put(api.Entry{Key: "k"})
	was := d.Image()
	for _, key := range wrongKeys() {
		if e := c.Put(api.Entry{Key: key}); e != api.ErrKey {
			t.Errorf("Put of %q: %v", key, e)
		}
		if e := c.Put(api.Entry{Key: key, Fault: -1, Program: strings.Repeat("x", 3000)}); e != api.ErrKey {
			t.Errorf("Put of %q, with more that is wrong: %v", key, e)
		}
		if e := c.Delete(key); e != api.ErrKey {
			t.Errorf("Delete of %q: %v", key, e)
		}
		if x, e := c.Get(key); e != api.ErrKey || !sameEntry(x, api.Entry{}) {
			t.Errorf("Get of %q: %v, %v", key, x, e)
		}
	}
	if !same(d.Image(), was) {
		t.Error("a wrong key has changed the disk")
	}
	has(t, "behind wrong keys", c, list{{Key: "k"}})
}

func TestRightKeys(t *testing.T) {
	var want list
	c := open(t, newDisk(t, 200))
	for _, key := range []string{"a", "z", "0", "9", "a0", "abcdefghijklmnopqrstuvwx", "yz0123456789", strings.Repeat("9", api.MaxKey), strings.Repeat("z", api.MaxKey-1), "10", "1", "2", "01"} {
		x := api.Entry{Key: key, Program: key + key}
		if e := c.Put(x); e != api.OK {
			t.Errorf("Put of %q: %v", key, e)
		}
		want = want.with(x)
		has(t, key, c, want)
	}
	if keys := c.Keys(); !slices.IsSorted(keys) || len(keys) != 13 {
		t.Error("keys:", keys)
	}
}

func TestGone(t *testing.T) {
	d := newDisk(t, 20)
	c := open(t, d)
	c.Put(api.Entry{Key: "ab"})
	was := d.Image()
	for _, key := range []string{"a", "abc", "b", "0"} {
		if x, e := c.Get(key); e != api.ErrGone || !sameEntry(x, api.Entry{}) {
			t.Errorf("Get of %q: %v, %v", key, x, e)
		}
		if e := c.Delete(key); e != api.ErrGone {
			t.Errorf("Delete of %q: %v", key, e)
		}
	}
	if !same(d.Image(), was) {
		t.Error("a key that is gone has changed the disk")
	}
	if c.Delete("ab") != api.OK || c.Delete("ab") != api.ErrGone {
		t.Error("a key that was deleted")
	}
	has(t, "all deleted", c, nil)
}

// TestMayBe: entries at and beyond each bound.
func TestMayBe(t *testing.T) {
	program := func(n int) string { return strings.Repeat("\xff", n) }
	for i, x := range []struct {
		e    api.Entry
		want api.Errno
	}{
		{api.Entry{}, api.OK},
		{api.Entry{Program: program(1500)}, api.OK},
		{api.Entry{Program: program(1501)}, api.ErrArg},
		{api.Entry{Program: program(100000)}, api.ErrArg},
		{api.Entry{Points: []int{}}, api.OK},
		{api.Entry{Points: []int{0}}, api.OK},
		{api.Entry{Points: []int{0, 1, 1999}}, api.OK},
		{api.Entry{Points: []int{api.MaxPoints - 1}}, api.OK},
		{api.Entry{Points: []int{api.MaxPoints}}, api.ErrArg},
		{api.Entry{Points: []int{-1}}, api.ErrArg},
		{api.Entry{Points: []int{-1, 0}}, api.ErrArg},
		{api.Entry{Points: []int{math.MinInt, math.MaxInt}}, api.ErrArg},
		{api.Entry{Points: []int{math.MaxInt}}, api.ErrArg},
		{api.Entry{Points: []int{0, 0}}, api.ErrArg},
		{api.Entry{Points: []int{5, 5}}, api.ErrArg},
		{api.Entry{Points: []int{5, 4}}, api.ErrArg},
		{api.Entry{Points: []int{1, 2, 3, 2}}, api.ErrArg},
		{api.Entry{Points: upTo(900)}, api.OK},
		{api.Entry{Fault: 1}, api.OK},
		{api.Entry{Fault: 99}, api.OK},
		{api.Entry{Fault: 100}, api.ErrArg},
		{api.Entry{Fault: -1}, api.ErrArg},
		{api.Entry{Fault: math.MaxInt}, api.ErrArg},
		{api.Entry{Fault: math.MinInt}, api.ErrArg},
		{api.Entry{Picks: []int{}}, api.OK},
		{api.Entry{Picks: []int{0}}, api.ErrArg},
		{api.Entry{Picks: []int{1, 2}}, api.ErrArg},
		{api.Entry{Fault: 1, Picks: []int{0, 255, 0, 3, 3, 2}}, api.OK},
		{api.Entry{Fault: 1, Picks: []int{256}}, api.ErrArg},
		{api.Entry{Fault: 1, Picks: []int{-1}}, api.ErrArg},
		{api.Entry{Fault: 1, Picks: []int{1, math.MaxInt}}, api.ErrArg},
		{api.Entry{Fault: 1, Picks: []int{math.MinInt}}, api.ErrArg},
		{api.Entry{Fault: 7, Picks: []int{1}, Points: []int{4, 40, 400}, Program: "p"}, api.OK},
	} {
		for _, key := range []string{"k", "new"} {
			d := newDisk(t, 200)
			c := open(t, d)
			c.Put(api.Entry{Key: "k", Program: "old", Points: []int{1}})
			old := list{{Key: "k", Program: "old", Points: []int{1}}}
			was := d.Image()
			x.e.Key = key
			if e := c.Put(x.e); e != x.want {
				t.Errorf("entry %d: %v, want %v", i, e, x.want)
			}
			if x.want == api.OK {
				has(t, "put", c, old.with(x.e))
				has(t, "put and opened", open(t, d), old.with(x.e))
				continue
			}
			has(t, "refused", c, old)
			if !same(d.Image(), was) {
				t.Errorf("entry %d was refused, and has changed the disk", i)
			}
		}
	}
}

// TestLong: records of MaxRecord bytes, and of one more.
func TestLong(t *testing.T) {
	for _, x := range []struct {
		e    api.Entry
		want api.Errno
	}{
		{api.Entry{Fault: 1, Picks: make([]int, 1992)}, api.OK},
		{api.Entry{Fault: 1, Picks: make([]int, 1993)}, api.ErrLong},
		{api.Entry{Fault: 1, Picks: make([]int, 1994)}, api.ErrLong},
		{api.Entry{Fault: 1, Picks: make([]int, 2000)}, api.ErrLong},
		{api.Entry{Fault: 1, Picks: make([]int, 2001)}, api.ErrLong},
		{api.Entry{Fault: 1, Picks: make([]int, 1<<20)}, api.ErrLong},
		{api.Entry{Fault: 1, Picks: slices.Repeat([]int{255}, 996)}, api.OK},
		{api.Entry{Fault: 1, Picks: slices.Repeat([]int{255}, 997)}, api.ErrLong},
		{api.Entry{Points: upTo(api.MaxPoints)}, api.ErrLong},
		{api.Entry{Points: upTo(128 + 932)}, api.OK},
		{api.Entry{Points: upTo(128 + 933)}, api.ErrLong},
		{api.Entry{Program: strings.Repeat("x", 1500), Fault: 1, Picks: make([]int, 491)}, api.OK},
		{api.Entry{Program: strings.Repeat("x", 1500), Fault: 1, Picks: make([]int, 492)}, api.ErrLong},
		{api.Entry{Fault: 1, Picks: append(make([]int, 3000), 256)}, api.ErrArg},
	} {
		x.e.Key = "k"
		if n := len(putBytes(x.e)); x.want != api.ErrArg && (n > api.MaxRecord) != (x.want == api.ErrLong) {
			t.Fatal("the test itself is wrong:", n)
		}
		d := newDisk(t, 200)
		c := open(t, d)
		if e := c.Put(x.e); e != x.want {
			t.Errorf("a record of %d bytes: %v, want %v", len(putBytes(x.e)), e, x.want)
		}
		var want list
		if x.want == api.OK {
			want = list{x.e}
		}
		has(t, "a long record", c, want)
		has(t, "a long record, opened", open(t, d), want)
	}
	// Its length is looked at ahead of the room.
	c := open(t, newDisk(t, 4))
	if e := c.Put(api.Entry{Key: "k", Fault: 1, Picks: make([]int, 2100)}); e != api.ErrLong {
		t.Error("without room:", e)
	}
}

// many puts MaxEntries entries.
func many(t *testing.T, c *corpus.Corpus) list {
	t.Helper()
	var all list
	for i := range api.MaxEntries {
		x := api.Entry{Key: string([]byte{byte('a' + i%26), byte('a' + i/26)}), Points: []int{i}}
		if e := c.Put(x); e != api.OK {
			t.Fatal(e)
		}
		all = all.with(x)
	}
	return all
}

func TestMaxEntries(t *testing.T) {
	d := newDisk(t, 400)
	c := open(t, d)
	all := many(t, c)
	has(t, "all", c, all)
	was := d.Image()
	if e := c.Put(api.Entry{Key: "more"}); e != api.ErrFull {
		t.Error("one more:", e)
	}
	if e := c.Put(api.Entry{Key: "more", Fault: 100}); e != api.ErrArg {
		t.Error("one more that may not be:", e)
	}
	if e := c.Put(api.Entry{Key: "more", Fault: 1, Picks: make([]int, 1989)}); e != api.ErrFull {
		t.Error("one more, of a record that is as long as it may be:", e)
	}
	if e := c.Put(api.Entry{Key: "more", Fault: 1, Picks: make([]int, 1990)}); e != api.ErrLong {
		t.Error("one more that is too long:", e)
	}
	if !same(d.Image(), was) {
		t.Error("one more has changed the disk")
	}
	x := api.Entry{Key: "aa", Program: "in its place"}
	if e := c.Put(x); e != api.OK {
		t.Error("one in the place of another:", e)
	}
	all = all.with(x)
	has(t, "one replaced", c, all)
	if c.Delete("ba") != api.OK || c.Put(api.Entry{Key: "more"}) != api.OK || c.Put(api.Entry{Key: "ba"}) != api.ErrFull {
		t.Error("one less, one more")
	}
	all = all.without("ba").with(api.Entry{Key: "more"})
	has(t, "one less, one more", c, all)
	has(t, "and opened", open(t, d), all)
}

// TestDiskThatIsGone: a disk that was made empty by hand is told by its own error, and the entries stay.
func TestDiskThatIsGone(t *testing.T) {
	d := newDisk(t, 20)
	c := open(t, d)
	c.Put(api.Entry{Key: "a"})
	*d = disk.Disk{}
	if e := c.Put(api.Entry{Key: "b"}); e != api.ErrNil {
		t.Error("Put:", e)
	}
	has(t, "a disk that is gone", c, list{{Key: "a"}})
}

// TestRecords: the bytes that Put and Delete leave in the journal.
func TestRecords(t *testing.T) {
	d := newDisk(t, 100)
	c := open(t, d)
	c.Put(api.Entry{Key: "a1", Program: "hey", Points: []int{3, 300}})
	c.Put(api.Entry{Key: "f", Program: strings.Repeat("p", 130), Fault: 4, Picks: []int{1, 200}})
	c.Delete("a1")
	recs, g := recorded(t, d.Image())
	want := [][]byte{
		{1, 2, 'a', '1', 3, 'h', 'e', 'y', 2, 3, 0x82, 0x2c, 0, 0},
		slices.Concat([]byte{1, 1, 'f', 0x81, 2}, bytes.Repeat([]byte{'p'}, 130), []byte{0, 4, 2, 1, 0x81, 0x48}),
		{2, 2, 'a', '1'},
	}
	if !same(recs, want) || g != 1 || len(d.Epochs()) != 0 {
		t.Errorf("%x, want %x", recs, want)
	}
}

// TestPassedBy: records that are not of the form are as if they were not there.
func TestPassedBy(t *testing.T) {
	a := api.Entry{Key: "a", Program: "p", Points: []int{1, 2}}
	right := putBytes(a)
	wrong := [][]byte{
		{0}, {1}, {2}, {3}, {0x81, 1}, {0x80}, {0xff},
		right[:len(right)-1],
		right[1:],
		append(slices.Clone(right), 0),
		slices.Concat([]byte{3}, right[1:]),
		slices.Concat([]byte{0x80}, right),
		slices.Concat([]byte{0x81, 1}, right[1:]),
		putBytes(api.Entry{Key: ""}),
		putBytes(api.Entry{Key: "A"}),
		putBytes(api.Entry{Key: "a b"}),
		putBytes(api.Entry{Key: strings.Repeat("a", api.MaxKey+1)}),
		putBytes(api.Entry{Key: "a", Program: strings.Repeat("x", 1501)}),
		putBytes(api.Entry{Key: "a", Points: []int{2, 1}}),
		putBytes(api.Entry{Key: "a", Points: []int{2, 2}}),
		putBytes(api.Entry{Key: "a", Points: []int{api.MaxPoints}}),
		putBytes(api.Entry{Key: "a", Fault: 100}),
		putBytes(api.Entry{Key: "a", Fault: 1, Picks: []int{256}}),
		putBytes(api.Entry{Key: "a", Picks: []int{0}}),
		{1, 1, 'a', 0, 0xff, 0xff, 0xff, 0xff, 0xff, 0xff, 0xff, 0xff, 0x7f},
		{1, 1, 'a', 0, 0xff, 0xff, 0xff, 0xff, 0xff, 0xff, 0xff, 0xff, 0x7f, 0, 0},
		{1, 1, 'a', 0, 0, 1, 0xff, 0xff, 0xff, 0xff, 0xff, 0xff, 0xff, 0xff, 0x7f, 0},
		{1, 1, 'a', 0, 0, 0xff, 0xff, 0xff, 0xff, 0xff, 0xff, 0xff, 0xff, 0x7f, 0},
		{1, 1, 'a', 0, 0, 0xff, 0xff, 0xff, 0xff, 0xff, 0xff, 0xff, 0xff, 0xff, 0},
		{1, 1, 'a', 0, 0x80, 0, 0, 0},
		{1, 0x80, 1, 'a', 0, 0, 0, 0},
		deleteBytes(""), deleteBytes("b"), deleteBytes("A"), deleteBytes(strings.Repeat("k", api.MaxKey+1)),
		append(deleteBytes("k"), 0), {2, 2, 'k'}, {2, 'k'}, {2, 0x80, 1, 'k'},
	}
	kept := list{{Key: "k", Points: []int{7}, Program: "kept"}}
	for _, w := range wrong {
		has(t, "alone", holding(t, 100, w), nil)
		has(t, "between", holding(t, 100, kept.records()[0], w, right), kept.with(a))
		has(t, "behind", holding(t, 100, right, kept.records()[0], w), kept.with(a))
	}
	has(t, "nothing wrong", holding(t, 100, kept.records()[0], right, deleteBytes("k"), deleteBytes("k")), list{a})
	has(t, "put, deleted, put", holding(t, 100, right, deleteBytes("a"), right), list{a})
	has(t, "put twice", holding(t, 100, putBytes(api.Entry{Key: "a", Fault: 3}), right), list{a})
	for n := 1; n < len(right); n++ {
		has(t, "cut", holding(t, 100, right[:n]), nil)
	}
}

// TestOpenMaxEntries: an entry of a further key is passed by; one of a key that is there is not, nor one behind a deletion.
func TestOpenMaxEntries(t *testing.T) {
	d := newDisk(t, 400)
	all := many(t, open(t, d))
	more, again := api.Entry{Key: "more", Points: []int{1500}}, api.Entry{Key: "aa", Program: "again"}
	has(t, "one more", holding(t, 400, append(all.records(), putBytes(more))...), all)
	has(t, "one again", holding(t, 400, append(all.records(), putBytes(more), putBytes(again))...), all.with(again))
	has(t, "one less", holding(t, 400, append(all.records(), putBytes(more), deleteBytes("aa"), putBytes(more), putBytes(again))...), all.without("aa").with(more))
}

// TestPoints: those of faults do not count; each stands once, whatever is replaced or deleted.
func TestPoints(t *testing.T) {
	c := open(t, newDisk(t, 200))
	for _, x := range []struct {
		e    api.Entry
		want []int
	}{
		{api.Entry{Key: "f1", Fault: 1, Points: []int{1, 2}}, nil},
		{api.Entry{Key: "b", Points: []int{2, 1999}}, []int{2, 1999}},
		{api.Entry{Key: "a", Points: []int{0, 2, 5}}, []int{0, 2, 5, 1999}},
		{api.Entry{Key: "c"}, []int{0, 2, 5, 1999}},
		{api.Entry{Key: "b", Points: []int{5, 7}}, []int{0, 2, 5, 7}},
		{api.Entry{Key: "f1", Points: []int{1}}, []int{0, 1, 2, 5, 7}},
		{api.Entry{Key: "a", Points: []int{0, 2, 5}, Fault: 99}, []int{1, 5, 7}},
	} {
		if e := c.Put(x.e); e != api.OK || !slices.Equal(c.Points(), x.want) {
			t.Errorf("behind %v: %v, points %v, want %v", x.e, e, c.Points(), x.want)
		}
	}
	if c.Delete("b") != api.OK || !slices.Equal(c.Points(), []int{1}) || c.Delete("f1") != api.OK || len(c.Points()) != 0 {
		t.Error("behind Delete:", c.Points())
	}
}

func TestMergeAndWithout(t *testing.T) {
	low, high := math.MinInt, math.MaxInt
	for _, x := range []struct{ a, b, merged, without []int }{
		{nil, nil, nil, nil},
		{[]int{}, nil, nil, nil},
		{nil, []int{1}, []int{1}, nil},
		{[]int{1}, nil, []int{1}, []int{1}},
		{[]int{1}, []int{}, []int{1}, []int{1}},
		{[]int{1}, []int{1}, []int{1}, nil},
		{[]int{3, 1}, []int{2, 1}, []int{1, 2, 3}, []int{3}},
		{[]int{1, 2, 3}, []int{2}, []int{1, 2, 3}, []int{1, 3}},
		{[]int{2}, []int{1, 3}, []int{1, 2, 3}, []int{2}},
		{[]int{5, 5, 4, 5}, []int{4, 4, 7, 7}, []int{4, 5, 7}, []int{5}},
		{[]int{0, -1, high, low}, []int{low, 9, 0}, []int{low, -1, 0, 9, high}, []int{-1, high}},
		{[]int{9, 8, 7, 9, 8, 7}, []int{8, 6, 8}, []int{6, 7, 8, 9}, []int{7, 9}},
	} {
		if got := corpus.Merge(x.a, x.b); !slices.Equal(got, x.merged) {
			t.Errorf("Merge(%v, %v): %v", x.a, x.b, got)
		}
		if got := corpus.Merge(x.b, x.a); !slices.Equal(got, x.merged) {
			t.Errorf("Merge(%v, %v): %v", x.b, x.a, got)
		}
		if got := corpus.Without(x.a, x.b); !slices.Equal(got, x.without) {
			t.Errorf("Without(%v, %v): %v", x.a, x.b, got)
		}
	}
}
