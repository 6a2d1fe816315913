package fuzz_test

import (
	"bytes"
	"math"
	"testing"

	"dredger/api"
	"dredger/disk"
	"dredger/fuzz"
	"dredger/journal"
)

// crashes asks for what a Crash answers, and for all entries behind it.
func crashes(t *testing.T, l *fuzz.Loop, epochs int, keep []int, torn int, why api.Errno, want ...api.Entry) {
	t.Helper()
	if e := l.Crash(epochs, keep, torn); e != why {
		t.Errorf("Crash(%d, %v, %d): %v, want %v", epochs, keep, torn, e, why)
	}
	if got := l.Entries(); !sameEntries(got, want) {
		t.Errorf("Crash(%d, %v, %d): %+v, want %+v", epochs, keep, torn, got, want)
	}
}

// filled is a loop with two entries, and these.
func filled(t *testing.T, sectors int) (*fuzz.Loop, []api.Entry) {
	t.Helper()
	l := loop(t, newDisk(t, sectors), small, api.DefectDup)
	makes(t, l, getpid(), nil, "new p00")
	makes(t, l, doubled(), nil, "fault 4")
	return l, []api.Entry{{Key: "f4", Program: doubledText, Fault: 4}, {Key: "p00", Program: "getpid()\n", Points: []int{1216}}}
}

// TestCrash: P24.3, what a turn kept is durable; and turns go on.
func TestCrash(t *testing.T) {
	l, want := filled(t, 60)
	d := l.Disk()
	crashes(t, l, 0, nil, 0, api.OK, want...)
	crashes(t, l, 0, nil, 128, api.OK, want...)
	crashes(t, l, 0, []int{}, math.MaxInt, api.OK, want...)
	has(t, l, want...)
	if l.Disk() != d {
		t.Error("another disk")
	}
	makes(t, l, getpid(), nil, "nothing")
	makes(t, l, doubled(), nil, "old 4")
	makes(t, l, opened(), nil, "new p01")
	crashes(t, l, 0, nil, 0, api.OK, append(want, api.Entry{Key: "p01", Program: openedText, Points: []int{0}})...)
}

// TestCrashRefused: disk.Crash's error; nothing has changed then.
func TestCrashRefused(t *testing.T) {
	l, want := filled(t, 60)
	sector := bytes.Repeat([]byte{7}, api.Size)
	l.Disk().Write(40, sector)
	for _, c := range []struct {
		epochs int
		keep   []int
		torn   int
		why    api.Errno
	}{
		{-1, nil, 0, api.ErrPlace}, {2, nil, 0, api.ErrPlace}, {math.MaxInt, nil, -1, api.ErrPlace}, {math.MinInt, []int{40}, 0, api.ErrPlace},
		{0, []int{41}, 0, api.ErrPlace}, {0, []int{40, 40}, 128, api.ErrPlace}, {1, []int{40}, -1, api.ErrPlace}, {0, []int{-1}, 0, api.ErrPlace},
		{0, []int{40}, -1, api.ErrArg}, {1, nil, -5, api.ErrArg}, {0, nil, math.MinInt, api.ErrArg},
	} {
		crashes(t, l, c.epochs, c.keep, c.torn, c.why, want...)
		if b, _ := l.Disk().Read(40); !bytes.Equal(b, sector) || len(l.Disk().Epochs()) != 1 {
			t.Fatal("the disk has changed")
		}
	}
	makes(t, l, opened(), nil, "new p01")
}

// TestCrashOfWrites: a sector of the journal that gets to the disk, or a part of one, takes the groups from there on.
func TestCrashOfWrites(t *testing.T) {
	for torn := range api.Size + 2 {
		l, want := filled(t, 60)
		image := l.Disk().Image()
		// Generation 1 has the second area, from sector 31 on; the second group begins in sector 32.
		l.Disk().Write(32, bytes.Repeat([]byte{0xff}, api.Size))
		l.Disk().Barrier()
		l.Disk().Write(31, make([]byte, api.Size))
		left := want[1:]
		if torn == 0 {
			left = want
		}
		crashes(t, l, 0, []int{32}, torn, api.OK, left...)
		has(t, l, left...)
		if got := l.Disk().Image(); torn == 0 && !sameImage(got, image) {
			t.Error("the disk has changed")
		}
		if torn > 0 {
			makes(t, l, doubled(), nil, "fault 4")
		}
		// The first group, with the second one there still.
		l, _ = filled(t, 60)
		l.Disk().Write(31, make([]byte, api.Size))
		crashes(t, l, 1, nil, torn, api.OK)
		makes(t, l, getpid(), nil, "new p00")
		has(t, l, want[1])
	}
}

// TestNoCorpus: P24.2, P24.3, of a disk that has become too small there is no corpus, until a Crash opens it.
func TestNoCorpus(t *testing.T) {
	l, want := filled(t, 60)
	d, large := l.Disk(), l.Disk().Copy()
	*d = *newDisk(t, 3)
	for range 2 {
		crashes(t, l, 0, nil, 0, api.ErrArg)
		for _, draws := range [][]int{nil, {0, 1, 2}, {1, 2, 3, 4}} {
			if s, e := l.Turn(draws, draws); s != "" || e != api.ErrState {
				t.Errorf("%q, %v", s, e)
			}
		}
		if len(l.Points()) != 0 || l.Disk() != d {
			t.Error("points, or another disk")
		}
	}
	crashes(t, l, 1, nil, 0, api.ErrPlace)
	if s, e := l.Turn(nil, nil); s != "" || e != api.ErrState {
		t.Errorf("%q, %v", s, e)
	}
	*d = *large
	if s, e := l.Turn(nil, nil); s != "" || e != api.ErrState || len(l.Entries()) != 0 {
		t.Errorf("ahead of a Crash: %q, %v", s, e)
	}
	crashes(t, l, 0, nil, 0, api.OK, want...)
	has(t, l, want...)
	makes(t, l, opened(), nil, "new p01")
	*d = disk.Disk{}
	if e := l.Crash(0, nil, 0); e != api.ErrNil {
		t.Error(e)
	}
}

// generation is that of an image's journal.
func generation(t *testing.T, image [][]byte) int {
	t.Helper()
	j, _, e := journal.Open(diskOf(t, image))
	if e != api.OK {
		t.Fatal(e)
	}
	return j.Generation()
}

// write writes those of some sectors that two images have not in common, as the second one has them.
func write(d *disk.Disk, a, b [][]byte, from, to int) {
	for i := from; i < to; i++ {
		if !bytes.Equal(a[i], b[i]) {
			d.Write(i, b[i])
		}
	}
	d.Barrier()
}

// writes is what a turn wrote that led from one image to another: a group; or, if the journal was compacted, what is wiped, a group, a head.
func writes(t *testing.T, before, after [][]byte) *disk.Disk {
	t.Helper()
	d := diskOf(t, before)
	g := generation(t, after)
	if g == generation(t, before) {
		write(d, before, after, 0, len(before))
		return d
	}
	n := (len(before) - 2) / 2
	from := 2 + g%2*n
	blank := newDisk(t, len(before)).Image()
	write(d, before, blank, from, from+n)
	write(d, blank, after, from, from+n)
	write(d, before, after, g%2, g%2+1)
	return d
}

// someCrashes calls look with the disk behind crashes of what was written: so many epochs, some choices of the next one's sectors, some ways to tear the last of these.
func someCrashes(t *testing.T, n *numbers, d *disk.Disk, look func(epochs int, keep []int, torn int)) {
	t.Helper()
	for epochs, next := range append(d.Epochs(), nil) {
		for range min(1<<len(next), 8) {
			var keep []int
			for _, s := range next {
				if n.next(3) > 0 {
					keep = append(keep, s.Sector)
				}
			}
			for _, torn := range []int{0, 1, 4, 12, 21, 22 + n.next(100), 123, 127, 128} {
				look(epochs, keep, torn)
			}
		}
	}
}

// TestLost: P5, behind a crash within a turn the corpus is what it was, or what it is behind the turn; and turns go on.
func TestLost(t *testing.T) {
	n := numbers(5)
	was, is, compacted := 0, 0, 0
	for _, sectors := range []int{8, 14, 20, 40} {
		l := loop(t, newDisk(t, sectors), kernelCalls, 63)
		for range 120 {
			before, old := l.Disk().Image(), l.Entries()
			s, _ := l.Turn(script(&n), picks(&n))
			after, next := l.Disk().Image(), l.Entries()
			if s[0] != 'n' && s[1] != 'a' || s == "nothing" {
				if !sameImage(before, after) || !sameEntries(old, next) {
					t.Fatalf("%q has changed something", s)
				}
				continue
			}
			if generation(t, before) != generation(t, after) {
				compacted++
			}
			d := writes(t, before, after)
			someCrashes(t, &n, d, func(epochs int, keep []int, torn int) {
				c := loop(t, diskOf(t, before), kernelCalls, 63)
				*c.Disk() = *d.Copy()
				if e := c.Crash(epochs, keep, torn); e != api.OK {
					t.Fatal(e)
				}
				got := c.Entries()
				switch {
				case sameEntries(got, old):
					was++
				case sameEntries(got, next):
					is++
				default:
					t.Fatalf("%q: %+v; it was %+v, and became %+v", s, got, old, next)
				}
				has(t, c, got...)
				if s, e := c.Turn(script(&n), picks(&n)); s == "" || e != api.OK {
					t.Fatal(s, e)
				}
				has(t, c, c.Entries()...)
			})
		}
	}
	if was < 500 || is < 200 || compacted < 3 {
		t.Error(was, is, compacted)
	}
}
