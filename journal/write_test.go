package journal_test

import (
	"bytes"
	"slices"
	"strings"
	"testing"

	"dredger/api"
	"dredger/disk"
	"dredger/journal"
)

// rec is a record of n bytes.
func rec(n int) []byte { return bytes.Repeat([]byte{'r'}, n) }

// looks holds what a journal tells of itself against what is wanted.
func looks(t *testing.T, what string, j *journal.Journal, waiting, used, room, generation int) {
	t.Helper()
	if j.Waiting() != waiting || j.Used() != used || j.Room() != room || j.Generation() != generation {
		t.Errorf("%s: waiting %d, used %d, room %d, generation %d; want %d, %d, %d, %d", what, j.Waiting(), j.Used(), j.Room(), j.Generation(), waiting, used, room, generation)
	}
}

// commit appends records and commits them.
func commit(t *testing.T, j *journal.Journal, recs ...string) {
	t.Helper()
	for _, r := range recs {
		if e := j.Append([]byte(r)); e != api.OK {
			t.Fatal("Append:", e)
		}
	}
	if e := j.Commit(); e != api.OK {
		t.Fatal("Commit:", e)
	}
}

func TestNoJournal(t *testing.T) {
	for _, j := range []*journal.Journal{nil, {}} {
		if j.Append(nil) != api.ErrNil || j.Append(rec(1)) != api.ErrNil || j.Append(rec(api.MaxRecord+1)) != api.ErrNil || j.Commit() != api.ErrNil || j.Compact(nil) != api.ErrNil || j.Compact([][]byte{nil}) != api.ErrNil {
			t.Error("no ErrNil")
		}
		looks(t, "no journal", j, 0, 0, 0, 0)
	}
}

func TestAppend(t *testing.T) {
	d := newDisk(t, 60)
	j, _ := open(t, d)
	was := d.Image()
	for _, x := range []struct {
		rec     []byte
		want    api.Errno
		waiting int
	}{
		{nil, api.ErrArg, 0},
		{[]byte{}, api.ErrArg, 0},
		{rec(api.MaxRecord + 1), api.ErrLong, 0},
		{rec(1), api.OK, 1},
		{rec(0), api.ErrArg, 1},
		{[]byte{0}, api.OK, 2},
		{rec(api.MaxRecord), api.OK, 3}, // 2006 bytes so far, of 2900
		{rec(api.MaxRecord), api.ErrFull, 3},
		{rec(100000), api.ErrLong, 3},
		{rec(893), api.ErrFull, 3},
		{rec(892), api.OK, 4},
		{rec(1), api.ErrFull, 4},
		{nil, api.ErrArg, 4},
		{rec(api.MaxRecord + 1), api.ErrLong, 4},
	} {
		if e := j.Append(x.rec); e != x.want {
			t.Errorf("Append of %d bytes: %v, want %v", len(x.rec), e, x.want)
		}
		looks(t, "behind Append", j, x.waiting, 0, 29, 1)
	}
	if !same(d.Image(), was) || len(d.Epochs()) != 0 {
		t.Error("Append has changed the disk")
	}
	if j.Commit() != api.OK {
		t.Error("Commit")
	}
	looks(t, "behind Commit", j, 0, 29, 0, 1)
	if j.Append(rec(1)) != api.ErrFull || j.Append(nil) != api.ErrArg || j.Append(rec(api.MaxRecord+1)) != api.ErrLong {
		t.Error("Append without room")
	}
}

// TestAppendRoom: a group that just fills the room, and one that needs a sector more.
func TestAppendRoom(t *testing.T) {
	for _, x := range []struct{ sectors, fits int }{{4, 99}, {5, 99}, {6, 198}, {7, 198}, {10, 398}, {42, 1998}, {43, 1998}, {44, 2000}} {
		j, _ := open(t, newDisk(t, x.sectors))
		if e := j.Append(rec(x.fits + 1)); x.fits < api.MaxRecord && e != api.ErrFull {
			t.Errorf("%d sectors: one byte too many is %v", x.sectors, e)
		}
		room := j.Room()
		if j.Append(rec(x.fits)) != api.OK || j.Commit() != api.OK {
			t.Errorf("%d sectors: %d bytes do not fit", x.sectors, x.fits)
		}
		if x.fits < api.MaxRecord {
			looks(t, "filled", j, 0, room, 0, 1)
		}
	}
	j, _ := open(t, newDisk(t, 10))
	commit(t, j, "a")
	if j.Append(rec(299)) != api.ErrFull || j.Append(rec(200)) != api.OK || j.Append(rec(98)) != api.ErrFull || j.Append(rec(97)) != api.OK {
		t.Error("the room behind a group")
	}
	looks(t, "behind a group", j, 2, 1, 3, 1)
}

// TestCommit: the bytes of its sectors, and of no other one.
func TestCommit(t *testing.T) {
	for _, g := range []int{1, 2, 1 << 31} {
		d := diskOf(t, laid(16, g))
		j, _ := open(t, d)
		want := laid(16, g)
		at, _ := areaAt(16, g)
		place := 0
		for i, recs := range [][]string{{"a"}, {strings.Repeat("b", 99)}, {strings.Repeat("c", 99), "d"}, {"e", "f", strings.Repeat("g", 190)}} {
			commit(t, j, recs...)
			b := groupBytes(place, uint64(g), uint64(i+1), texts(recs...))
			lay(want, at+place, b)
			place += len(b)
			if !same(d.Image(), want) || len(d.Epochs()) != 0 {
				t.Errorf("generation %d: behind group %d the disk has others", g, i+1)
			}
			looks(t, "behind Commit", j, 0, place, 7-place, g)
		}
		checkOpen(t, "behind Commit", d.Image())
	}
}

// TestCommitOfNothing: nothing, not even a flush.
func TestCommitOfNothing(t *testing.T) {
	d := newDisk(t, 11)
	j, _ := open(t, d)
	was := d.Image()
	d.Write(10, rec(128))
	if j.Commit() != api.OK || !same(d.Image(), was) || len(d.Epochs()) != 1 {
		t.Error("Commit of nothing does something")
	}
	commit(t, j, "a")
	if len(d.Epochs()) != 0 {
		t.Error("Commit does not flush")
	}
	was = d.Image()
	d.Write(10, rec(128))
	if j.Commit() != api.OK || !same(d.Image(), was) || len(d.Epochs()) != 1 {
		t.Error("a second Commit of nothing does something")
	}
	looks(t, "behind them", j, 0, 1, 3, 1)
}

// TestWaitingIsNotWritten: records that wait are lost with the journal.
func TestWaitingIsNotWritten(t *testing.T) {
	d := newDisk(t, 10)
	j, _ := open(t, d)
	commit(t, j, "a")
	j.Append([]byte("b"))
	if _, recs := open(t, d); !slices.Equal(told(recs), []string{"a"}) {
		t.Errorf("%q", told(recs))
	}
}

// TestLargest: all sectors of the largest disk, in groups of one sector.
func TestLargest(t *testing.T) {
	d := newDisk(t, api.MaxSectors)
	j, _ := open(t, d)
	for j.Room() > 0 {
		commit(t, j, "record")
	}
	looks(t, "full", j, 0, 1023, 0, 1)
	checkOpen(t, "full", d.Image())
	if _, recs := open(t, d); len(recs) != 1023 {
		t.Error(len(recs), "records")
	}
	all := slices.Repeat([][]byte{rec(98)}, 1033) // 102267 bytes of 102300
	if e := j.Compact(append(all, rec(33))); e != api.ErrFull {
		t.Error("one byte too many:", e)
	}
	if e := j.Compact(append(all, rec(32))); e != api.OK {
		t.Error("what just fits:", e)
	}
	looks(t, "compacted", j, 0, 1023, 0, 2)
	checkOpen(t, "compacted", d.Image())
	if _, recs := open(t, d); len(recs) != 1034 {
		t.Error(len(recs), "records")
	}
}

func TestCompactRefused(t *testing.T) {
	a, none, long, many := rec(1), []byte{}, rec(api.MaxRecord+1), slices.Repeat([][]byte{rec(99)}, 5)
	for _, x := range []struct {
		name string
		wait bool
		g    int
		recs [][]byte
		want api.Errno
	}{
		{"none", false, 3, nil, api.OK},
		{"an empty list", false, 3, [][]byte{}, api.OK},
		{"one", false, 3, [][]byte{a}, api.OK},
		{"what just fits", false, 3, many[:4], api.OK},
		{"one that just fits", false, 3, [][]byte{rec(398)}, api.OK},
		{"none, while one waits", true, 3, nil, api.ErrState},
		{"a wrong one, while one waits", true, 3, [][]byte{none}, api.ErrState},
		{"too many, while one waits", true, 1 << 31, many, api.ErrState},
		{"nil", false, 3, [][]byte{nil}, api.ErrArg},
		{"an empty one", false, 3, [][]byte{a, none}, api.ErrArg},
		{"an empty one, a long one", false, 3, [][]byte{none, long}, api.ErrArg},
		{"a long one, an empty one", false, 3, [][]byte{long, none}, api.ErrArg},
		{"an empty one behind too many", false, 3, append(slices.Clone(many), none), api.ErrArg},
		{"a long one", false, 3, [][]byte{a, long}, api.ErrLong},
		{"a long one behind too many", false, 3, append(slices.Clone(many), long), api.ErrLong},
		{"a long one of the last generation", false, 1 << 31, [][]byte{long}, api.ErrLong},
		{"too many", false, 3, many, api.ErrFull},
		{"one that is too great", false, 3, [][]byte{rec(399)}, api.ErrFull},
		{"very many", false, 3, slices.Repeat([][]byte{a}, 1<<20), api.ErrFull},
		{"the last but one generation", false, 1<<31 - 1, [][]byte{a}, api.OK},
		{"the last generation", false, 1 << 31, [][]byte{a}, api.ErrFull},
		{"none in the last generation", false, 1 << 31, nil, api.ErrFull},
	} {
		d := diskOf(t, laid(10, x.g, []string{"old"}))
		j, _ := open(t, d)
		waiting := 0
		if x.wait {
			j.Append(a)
			waiting = 1
		}
		was := d.Image()
		if e := j.Compact(x.recs); e != x.want {
			t.Errorf("%s: %v, want %v", x.name, e, x.want)
		}
		if x.want == api.OK {
			looks(t, x.name, j, 0, (len(texts(told(x.recs)...))+99)/100, 4-(len(texts(told(x.recs)...))+99)/100, x.g+1)
			continue
		}
		looks(t, x.name, j, waiting, 1, 3, x.g)
		if !same(d.Image(), was) || len(d.Epochs()) != 0 {
			t.Errorf("%s: it was refused, and has changed the disk", x.name)
		}
		commit(t, j, "new")
		if _, recs := open(t, d); len(recs) != 2+waiting {
			t.Errorf("%s: behind it a commit tells %q", x.name, told(recs))
		}
	}
}

// TestCompact: the other area is wiped and has the group 1 of the next generation, whose head stands beside the old one.
func TestCompact(t *testing.T) {
	for _, g := range []int{1, 2, 1<<31 - 1} {
		for _, recs := range [][]string{nil, {"a"}, {"b", "a", "b"}, {strings.Repeat("c", 250), "d"}} {
			image := laid(13, g, []string{"old"}, []string{"older"})
			at, _ := areaAt(13, g+1)
			image[at+1][60], image[at+4][127], image[12][3] = 1, 2, 3
			d := diskOf(t, image)
			j, _ := open(t, d)
			var list [][]byte
			for _, r := range recs {
				list = append(list, []byte(r))
			}
			if e := j.Compact(list); e != api.OK {
				t.Fatal(e)
			}
			want := deep(image)
			lay(want, at, blank(5))
			used := 0
			if len(recs) > 0 {
				b := groupBytes(0, uint64(g+1), 1, texts(recs...))
				lay(want, at, b)
				used = len(b)
			}
			want[(g+1)%2] = headBytes(uint64(g + 1))
			if !same(d.Image(), want) || len(d.Epochs()) != 0 {
				t.Errorf("generation %d, %d records: another image", g, len(recs))
			}
			looks(t, "compacted", j, 0, used, 5-used, g+1)
			checkOpen(t, "compacted", d.Image())
			commit(t, j, "next")
			if _, got := open(t, d); !slices.Equal(told(got), append(slices.Clone(recs), "next")) {
				t.Errorf("generation %d: behind Compact and Commit: %q", g, told(got))
			}
		}
	}
}

// TestRuns: many calls of all kinds; Open of the disk tells what a list of records does, at any time.
func TestRuns(t *testing.T) {
	var r numbers = 7
	for range 60 {
		sectors := 4 + r.next(20)
		d := newDisk(t, sectors)
		j, _ := open(t, d)
		n := (sectors - 2) / 2
		var kept, waits [][]byte
		used, generation := 0, 1
		size := func(recs [][]byte) int { return (len(texts(told(recs)...)) + 99) / 100 }
		for range 60 {
			switch r.next(5) {
			case 0, 1:
				x := rec(r.next(130))
				want := api.OK
				if len(x) == 0 {
					want = api.ErrArg
				} else if size(append(slices.Clone(waits), x)) > n-used {
					want = api.ErrFull
				} else {
					waits = append(waits, x)
				}
				if e := j.Append(x); e != want {
					t.Fatal("Append:", e, "want", want)
				}
			case 2:
				used += size(waits)
				kept, waits = append(kept, waits...), nil
				if e := j.Commit(); e != api.OK {
					t.Fatal("Commit:", e)
				}
			case 3:
				some := append(slices.Clone(kept[len(kept)/2:]), rec(1+r.next(300)))
				want := api.OK
				if len(waits) > 0 {
					want = api.ErrState
				} else if size(some) > n {
					want = api.ErrFull
				} else {
					kept, used = some, size(some)
					generation++
				}
				if e := j.Compact(some); e != want {
					t.Fatal("Compact:", e, "want", want)
				}
			case 4:
				was := d.Image()
				if _, recs := open(t, d); !same(recs, kept) || !same(d.Image(), was) {
					t.Fatal("opened beside:", told(recs))
				}
			}
			looks(t, "in a run", j, len(waits), used, n-used, generation)
			if _, recs := open(t, diskOf(t, d.Image())); !same(recs, kept) {
				t.Fatalf("%q, want %q", told(recs), told(kept))
			}
		}
	}
}

// TestDiskThatIsGone: a disk that was made empty by hand is told by its own error, and nothing panics.
func TestDiskThatIsGone(t *testing.T) {
	d := newDisk(t, 10)
	j, _ := open(t, d)
	j.Append(rec(1))
	*d = disk.Disk{}
	if e := j.Commit(); e != api.ErrNil || j.Waiting() != 1 || j.Used() != 0 {
		t.Error("Commit:", e)
	}
	d = newDisk(t, 10)
	j, _ = open(t, d)
	*d = disk.Disk{}
	if e := j.Compact([][]byte{rec(1)}); e != api.ErrNil || j.Generation() != 1 || j.Used() != 0 {
		t.Error("Compact:", e)
	}
}
