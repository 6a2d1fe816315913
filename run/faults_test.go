package run_test

import (
	"slices"
	"testing"

	"dredger/api"
	"dredger/run"
)

// paths lays two of them ahead of a call.
func paths(x api.Exec, a, b string) api.Exec {
	return with(x, at(path, a+"\x00"), at(other, b+"\x00"))
}

// TestFaults: the run ends behind the call that breaks a rule, and is not cut off, whoever runs still.
func TestFaults(t *testing.T) {
	write := call(api.CallWrite, 0, space, 20)
	for _, c := range []struct {
		defect, fault int
		l             []api.Exec
	}{
		{api.DefectLinks, 1, []api.Exec{open("/a"), paths(call(api.CallLink, path, other), "/a", "/b"), paths(call(api.CallUnlink, path), "/a", "")}},
		{api.DefectRename, 1, []api.Exec{open("/a"), open("/b"), paths(call(api.CallRename, path, other), "/a", "/b")}},
		{api.DefectBlocks, 2, []api.Exec{open("/a"), write, call(api.CallTruncate, path, 3)}},
		{api.DefectWriter, 3, []api.Exec{call(api.CallPipe, space), call(api.CallClose, 1)}},
		{api.DefectFork, 4, []api.Exec{open("/a"), fork()}},
		{api.DefectDup, 4, []api.Exec{open("/a"), open("/b"), call(api.CallDup2, 0, 1)}},
	} {
		for _, l := range [][]api.Exec{c.l, slices.Concat(c.l, []api.Exec{getpid(), fork()})} {
			r, e := run.Exec(l, c.defect, nil)
			if e != api.OK || r.Fault != c.fault || r.Cut || len(r.Results) != len(c.l) || slices.Contains(r.Points, 1216) {
				t.Errorf("defect %d: %+v, %v", c.defect, r, e)
			}
			for i, x := range r.Results {
				if x.Proc != 1 || x.Step != i || x.Err != 0 {
					t.Errorf("defect %d: %+v", c.defect, r)
				}
			}
		}
		for _, defects := range []int{0, 64, -64} {
			r, e := run.Exec(c.l, defects, nil)
			if e != api.OK || r.Fault != 0 || r.Cut {
				t.Errorf("defects %d: %+v, %v", defects, r, e)
			}
		}
	}
}

// TestFaultWhileOthersRun: the same, where another process waits, and a third one has not begun.
func TestFaultWhileOthersRun(t *testing.T) {
	l := []api.Exec{fork(), fork(), call(api.CallWait), call(api.CallPipe, space), call(api.CallClose, 1), getpid()}
	// 1 must wait; 3 has no child, makes a pipe, closes it.
	execs(t, l, api.DefectWriter, []int{0, 0, 0, 1, 2, 2}, api.Report{
		Results: []api.Result{did(1, 0, 2), did(1, 1, 3), failed(3, 2, api.ECHILD), did(3, 3, 0), did(3, 4, 0)},
		Points:  []int{64, 896, 960, 1098, 1151},
		Fault:   3,
	})
	// At its end 3 closes what it has: the fault is told, though 1 and 2 run.
	l = []api.Exec{fork(), fork(), call(api.CallWait), call(api.CallPipe, space)}
	execs(t, l, api.DefectWriter, []int{0, 0, 0, 1, 2, 2}, api.Report{
		Results: []api.Result{did(1, 0, 2), did(1, 1, 3), failed(3, 2, api.ECHILD), did(3, 3, 0)},
		Points:  []int{896, 960, 1098, 1151},
		Fault:   3,
	})
}

// TestFaultAtTheEnd: what a process's end breaks is told, too.
func TestFaultAtTheEnd(t *testing.T) {
	pipe := []api.Exec{call(api.CallPipe, space)}
	execs(t, pipe, api.DefectWriter, nil, api.Report{Results: []api.Result{did(1, 0, 0)}, Points: []int{896}, Fault: 3})
	execs(t, pipe, 63&^api.DefectWriter, nil, api.Report{Results: []api.Result{did(1, 0, 0)}, Points: []int{896}})
	gone := []api.Exec{open("/a"), call(api.CallWrite, 0, space, 20), call(api.CallUnlink, path)}
	want := []api.Result{did(1, 0, 0), did(1, 1, 20), did(1, 2, 0)}
	execs(t, gone, api.DefectBlocks, nil, api.Report{Results: want, Points: []int{0, 192, 448}, Fault: 2})
	execs(t, gone, 63&^api.DefectBlocks, nil, api.Report{Results: want, Points: []int{0, 192, 448}})
}

// turns is a program whose run takes 391 turns and as many more as it is given getpids to begin with, of which the last nine are ends: process 1 makes three others, those that are left make more when it has gone.
func turns(more int) []api.Exec {
	return slices.Concat(slices.Repeat([]api.Exec{getpid()}, more), slices.Repeat([]api.Exec{fork()}, 4), slices.Repeat([]api.Exec{getpid()}, 41))
}

// TestBound: a run of MaxSteps turns comes to its end, one of more is cut off there.
func TestBound(t *testing.T) {
	for _, more := range []int{0, 8, 9, 10, 11, 12, 19} {
		needs := 391 + more
		if m := modelRun(turns(more), 0, nil, 1000); m.turns != needs || m.cut || len(m.deeds) != needs-9 {
			t.Fatal(more, m.turns, len(m.deeds))
		}
		r, e := run.Exec(turns(more), 0, nil)
		// At turn 401 of as many the last process has nothing left to do but to end.
		if left := max(0, needs-401); e != api.OK || r.Cut != (needs > 400) || len(r.Results) > 400 || len(r.Results) < needs-9-left || r.Fault != 0 {
			t.Errorf("%d: %d results of %d, %v, %v", needs, len(r.Results), needs-9, r.Cut, e)
		}
		if want := modelRun(turns(more), 0, nil, 400).report(); !same(r, want) {
			t.Errorf("%d: %+v, want %+v", needs, r, want)
		}
	}
	r, e := run.Exec(slices.Repeat([]api.Exec{fork()}, 64), 0, nil)
	if e != api.OK || !r.Cut || len(r.Results) > 400 || len(r.Results) < 350 {
		t.Error(len(r.Results), r.Cut, e)
	}
}

// TestBoundWithoutResults: turns at which calls must wait count.
func TestBoundWithoutResults(t *testing.T) {
	// Each process makes the next one, and waits for it; 4 does one thing after the other, behind each of which the others try again.
	l := slices.Concat([]api.Exec{fork(), fork(), fork(), call(api.CallWait)}, slices.Repeat([]api.Exec{getpid()}, 60))
	picks := []int{0, 1, 2}
	r, e := run.Exec(l, 0, picks)
	if want := modelRun(l, 0, picks, 400).report(); e != api.OK || !same(r, want) || !r.Cut || len(r.Results) > 200 {
		t.Errorf("%+v, %v", r, e)
	}
	if m := modelRun(l, 0, picks, 1000); m.cut || m.turns <= 400 {
		t.Error(m.turns, m.cut)
	}
}

// TestFaultAtTheBound: a fault at the last turn is told, behind it there is none.
func TestFaultAtTheBound(t *testing.T) {
	// A file without a name goes with the last process.
	gone := []api.Exec{open("/a"), call(api.CallWrite, 0, space, 20), call(api.CallUnlink, path)}
	for more, want := range map[int]api.Report{5: {Fault: 2}, 6: {Fault: 2}, 7: {Cut: true}, 8: {Cut: true}} {
		l := slices.Concat(gone, turns(more))
		if r, e := run.Exec(l, api.DefectBlocks, nil); e != api.OK || r.Fault != want.Fault || r.Cut != want.Cut {
			t.Errorf("%d: %d, %v, %v", 394+more, r.Fault, r.Cut, e)
		}
		if r, e := run.Exec(l, 0, nil); e != api.OK || r.Fault != 0 || r.Cut != want.Cut {
			t.Errorf("%d: %d, %v, %v", 394+more, r.Fault, r.Cut, e)
		}
	}
}
