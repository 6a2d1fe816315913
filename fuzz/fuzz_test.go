package fuzz_test

import (
	"errors"
	"math"
	"slices"
	"testing"

	"dredger/api"
	"dredger/disk"
	"dredger/fuzz"
)

// TestExample: the chapter's.
func TestExample(t *testing.T) {
	l := loop(t, newDisk(t, 20), "call getpid(19)()", 0)
	has(t, l)
	does(t, l, nil, nil, "new p00")
	does(t, l, nil, nil, "nothing")
	has(t, l, api.Entry{Key: "p00", Program: "getpid()\n", Points: []int{1216}})
}

// refuses asks for a fault of New, which is neither another number nor a pointer.
func refuses(t *testing.T, d *disk.Disk, description string, want api.Fault) {
	t.Helper()
	l, err := fuzz.New(d, description, 63)
	var f api.Fault
	if l != nil || err != error(want) || !errors.As(err, &f) || f != want || !errors.Is(err, want.Why) || errors.Is(err, api.OK) {
		t.Errorf("%q: %v, %v, want %v", description, l, err, want)
	}
}

// TestNewRefused: P24.1, the description's fault is ahead of the disk's.
func TestNewRefused(t *testing.T) {
	disks := []*disk.Disk{nil, {}, newDisk(t, 1), newDisk(t, 3), newDisk(t, 4), newDisk(t, 100)}
	for _, c := range []struct {
		s    string
		want api.Fault
	}{
		{"call", api.Fault{At: 4, Why: api.ErrToken}},
		{"call f(3)() %", api.Fault{At: 12, Why: api.ErrChar}},
		{"\n\ncall f(3)(a zz)", api.Fault{At: 2, Why: api.ErrName}},
		{"call f(3)()\ncall f(4)()", api.Fault{At: 12, Why: api.ErrTwice}},
		{"call f(64)()", api.Fault{At: 0, Why: api.ErrValue}},
		{string(make([]byte, api.MaxText+1)), api.Fault{At: 0, Why: api.ErrFull}},
	} {
		for _, d := range disks {
			refuses(t, d, c.s, c.want)
		}
	}
	for _, s := range []string{"", small} {
		for i, d := range disks[:4] {
			refuses(t, d, s, api.Fault{Why: []api.Errno{api.ErrNil, api.ErrNil, api.ErrArg, api.ErrArg}[i]})
		}
	}
	if blank := newDisk(t, 100).Image(); !sameImage(disks[5].Image(), blank) || len(disks[5].Epochs()) != 0 {
		t.Error("a disk was written to")
	}
}

// TestNew: a loop has its disk itself, with what the disk has.
func TestNew(t *testing.T) {
	for _, sectors := range []int{4, 5, 20, api.MaxSectors} {
		d := newDisk(t, sectors)
		l := loop(t, d, small, 0)
		if l.Disk() != d {
			t.Error("another disk")
		}
		has(t, l)
	}
	want := []api.Entry{{Key: "a", Program: "zz", Points: []int{0, 7, 1999}}, {Key: "f3", Points: []int{5}, Fault: 99, Picks: []int{255}}}
	has(t, loop(t, holding(t, 20, want...), small, 0), want...)
	for _, defects := range []int{0, 63, -1, math.MinInt, math.MaxInt} {
		makes(t, loop(t, newDisk(t, 20), small, defects), getpid(), nil, "new p00")
	}
}

// TestUnmade: of a loop that no call made there is nothing.
func TestUnmade(t *testing.T) {
	for _, l := range []*fuzz.Loop{nil, {}} {
		for _, numbers := range [][]int{nil, {1, 2}} {
			if s, e := l.Turn(numbers, numbers); s != "" || e != api.ErrNil {
				t.Error(s, e)
			}
			for _, torn := range []int{-1, 0, 128} {
				if e := l.Crash(torn, numbers, torn); e != api.ErrNil {
					t.Error(e)
				}
			}
		}
		if len(l.Entries()) != 0 || len(l.Points()) != 0 || l.Disk() != nil {
			t.Error("it has something")
		}
	}
}

// TestWithoutCalls: no call may be drawn; the program of no steps has no points.
func TestWithoutCalls(t *testing.T) {
	for _, s := range []string{"", "\n", "const a = 1\nresource r[int8]: 1"} {
		l := loop(t, newDisk(t, 20), s, 63)
		for _, draws := range [][]int{nil, {0, 9, 3}, {1, 2, 3, 4}} {
			does(t, l, draws, []int{1, 2}, "nothing")
		}
		has(t, l)
		// Nor are there steps of others' programs; but one without any is a program of each table.
		l = loop(t, holding(t, 20, api.Entry{Key: "a", Program: "getpid()\n"}, api.Entry{Key: "b", Program: "\n#\n"}), s, 63)
		for i := range 4 {
			does(t, l, []int{1, 0, 0, i}, nil, "nothing")
		}
	}
}

// TestMemory: what is handed in is neither changed nor kept, and what is answered is new.
func TestMemory(t *testing.T) {
	l := loop(t, newDisk(t, 60), small, api.DefectDup)
	script := longer().draws(t, l)
	draws, picks := append(slices.Clone(script), 71, 72), []int{5, -1, 2, 71, 72}
	does(t, l, draws[:len(script)], picks[:3], "fault 4")
	if !slices.Equal(draws, append(script, 71, 72)) || !slices.Equal(picks, []int{5, -1, 2, 71, 72}) {
		t.Error("arguments were changed")
	}
	makes(t, l, getpid(), nil, "new p00")
	makes(t, l, opened(), picks[:3], "new p01")
	for i := range picks {
		picks[i] = 9
	}
	want := []api.Entry{
		{Key: "f4", Program: doubledText, Fault: 4, Picks: []int{1, 3, 2}},
		{Key: "p00", Program: "getpid()\n", Points: []int{1216}},
		{Key: "p01", Program: openedText, Points: []int{0}},
	}
	has(t, l, want...)
	scrawl := func(l []int) {
		for i := range l[:cap(l)] {
			l[:cap(l)][i] = -7
		}
	}
	for range 2 {
		for i := range want {
			for which := range 2 {
				got := l.Entries()
				scrawl([][]int{got[i].Points, got[i].Picks}[which])
				marred := []api.Entry{plain(want[0]), plain(want[1]), plain(want[2])}
				scrawl([][]int{marred[i].Points, marred[i].Picks}[which])
				if !sameEntries(got, marred) {
					t.Errorf("%+v, want %+v", got, marred)
				}
				got = got[:cap(got)]
				for k := range got {
					got[k] = api.Entry{Key: "scrawl"}
				}
			}
		}
		scrawl(l.Points())
		has(t, l, want...)
	}
}
