package oracle_test

import (
	"testing"

	"dredger/api"
	"dredger/kernel"
	"dredger/oracle"
)

// TestNoKernel: of what no call made no rule is broken.
func TestNoKernel(t *testing.T) {
	for what, k := range map[string]*kernel.Kernel{"nil": nil, "a plain one": {}} {
		if got := oracle.Check(k); got != 0 {
			t.Errorf("%s: %d", what, got)
		}
	}
	for defects := range 64 {
		if got := oracle.Check(kernel.New(defects)); got != 0 {
			t.Errorf("a new one with defects %d: %d", defects, got)
		}
	}
}

// TestDefects: each has calls behind the last of which its rule is broken, and none without it.
func TestDefects(t *testing.T) {
	read := api.FlagRead
	for _, x := range []struct {
		defect, rule int
		calls        [][]int
	}{
		{api.DefectLinks, 1, [][]int{{api.CallLink, atA, atNone}, {api.CallUnlink, atA}}},
		{api.DefectRename, 1, [][]int{{api.CallRename, atA, atB}}},
		{api.DefectBlocks, 2, [][]int{{api.CallTruncate, atA, 0}}},
		{api.DefectBlocks, 2, [][]int{{api.CallTruncate, atA, 16}}},
		{api.DefectWriter, 3, [][]int{{api.CallPipe, atFree}, {api.CallClose, 1}}},
		{api.DefectFork, 4, [][]int{{api.CallOpen, atA, read}, {api.CallFork}}},
		{api.DefectDup, 4, [][]int{{api.CallOpen, atA, read}, {api.CallOpen, atA, read}, {api.CallDup2, 0, 1}}},
	} {
		for _, defects := range []int{x.defect, 63 &^ x.defect, 0} {
			m := newMachine(t, defects)
			for i, c := range x.calls {
				m.breaks(0)
				if _, e, _ := m.Call(1, c[0], c[1:]); e != 0 {
					t.Fatalf("defects %d: call %v: %v", defects, c, e)
				}
				if i == len(x.calls)-1 && defects == x.defect {
					m.breaks(x.rule)
				} else {
					m.breaks(0)
				}
			}
		}
	}
}

// TestFirstBroken: of several broken rules Check tells the first.
func TestFirstBroken(t *testing.T) {
	m := newMachine(t, 63)
	m.does(0, 1, api.CallOpen, atA, api.FlagRead)
	m.does(2, 1, api.CallFork)
	m.breaks(4)
	m.does(0, 1, api.CallPipe, atFree)
	m.does(0, 1, api.CallClose, 2)
	m.breaks(3)
	m.does(0, 1, api.CallTruncate, atA, 0)
	m.breaks(2)
	m.does(0, 1, api.CallRename, atA, atB)
	m.breaks(1)
}

// TestPastDescriptors: an open file that is held, or dropped, past the descriptors breaks the rule of them.
func TestPastDescriptors(t *testing.T) {
	m := newMachine(t, 0)
	m.does(0, 1, api.CallOpen, atA, api.FlagRead)
	if e := m.Files().Hold(1); e != 0 {
		t.Fatal(e)
	}
	m.breaks(4)
	if e := m.Files().Drop(1); e != 0 {
		t.Fatal(e)
	}
	m.breaks(0)
	if e := m.Files().Drop(1); e != 0 {
		t.Fatal(e)
	}
	m.breaks(4)
}

// TestCheckChanges: it changes nothing of a kernel.
func TestCheckChanges(t *testing.T) {
	one, two := newMachine(t, 0), newMachine(t, 0)
	for _, x := range []machine{one, two} {
		x.does(0, 1, api.CallOpen, atA, api.FlagRead)
		x.does(2, 1, api.CallFork)
	}
	for range 5 {
		one.breaks(0)
	}
	if got, want := lookAt(one.Kernel), lookAt(two.Kernel); !equal(got, want) {
		t.Errorf("%+v, want %+v", got, want)
	}
}
