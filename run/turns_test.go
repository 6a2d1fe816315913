package run_test

import (
	"math"
	"slices"
	"testing"

	"dredger/api"
	"dredger/run"
)

func fork() api.Exec   { return call(api.CallFork) }
func getpid() api.Exec { return call(api.CallGetpid) }

// TestFork: a child begins at the next step, with its parent's results, and of the fork 0.
func TestFork(t *testing.T) {
	l := []api.Exec{open("/a"), getpid(), call(api.CallDup, 7), fork(), getpid(), tell(1), tell(2), tell(3), tell(4)}
	results(t, l, nil,
		did(1, 0, 0), did(1, 1, 1), failed(1, 2, api.EBADF), did(1, 3, 2), did(1, 4, 1), did(1, 5, 1), did(1, 6, 500), did(1, 7, 2), did(1, 8, 1),
		did(2, 4, 2), did(2, 5, 1), did(2, 6, 500), did(2, 7, 0), did(2, 8, 2))
	// The child goes first.
	results(t, l, []int{0, 0, 0, 0, 1, 1, 1, 1, 1, 1},
		did(1, 0, 0), did(1, 1, 1), failed(1, 2, api.EBADF), did(1, 3, 2),
		did(2, 4, 2), did(2, 5, 1), did(2, 6, 500), did(2, 7, 0), did(2, 8, 2),
		did(1, 4, 1), did(1, 5, 1), did(1, 6, 500), did(1, 7, 2), did(1, 8, 1))
}

// TestForkOfAFork: a child's child has both parents' results from ahead of the forks.
func TestForkOfAFork(t *testing.T) {
	l := []api.Exec{open("/a"), fork(), getpid(), call(api.CallDup, 5), fork(), tell(1), tell(2), tell(3), tell(4)}
	// 2 comes to its end ahead of 1's second fork, and waits to be asked for: 4 is the least number that is free then.
	results(t, l, []int{0, 0, 1, 1, 1, 1, 1, 1, 1, 1},
		did(1, 0, 0), did(1, 1, 2),
		did(2, 2, 2), failed(2, 3, api.EBADF), did(2, 4, 3), did(2, 5, 0), did(2, 6, 2), did(2, 7, 500), did(2, 8, 3),
		did(1, 2, 1), failed(1, 3, api.EBADF), did(1, 4, 4), did(1, 5, 2), did(1, 6, 1), did(1, 7, 500), did(1, 8, 4),
		did(3, 5, 0), did(3, 6, 2), did(3, 7, 500), did(3, 8, 0),
		did(4, 5, 2), did(4, 6, 1), did(4, 7, 500), did(4, 8, 0))
}

// TestForkFails: without a child nobody begins, and the fork has no result.
func TestForkFails(t *testing.T) {
	l := []api.Exec{open("/a"), fork(), fork(), fork(), fork(), tell(4), call(api.CallExit)}
	r, e := run.Exec(l, 0, nil)
	want := []api.Result{did(1, 0, 0), did(1, 1, 2), did(1, 2, 3), did(1, 3, 4), failed(1, 4, api.EAGAIN), did(1, 5, 500), did(1, 6, 0)}
	if e != api.OK || !slices.Equal(r.Results[:7], want) || !slices.Contains(r.Points, 15*64+11) || !slices.Contains(r.Points, 15*64) {
		t.Errorf("%+v, %v", r, e)
	}
}

// TestMemoryOfAChild: it has a copy of its parent's, and what is laid for one is not there for the other.
func TestMemoryOfAChild(t *testing.T) {
	mkdir := func(name string) api.Exec { return with(call(api.CallMkdir, path), at(path, name+"\x00")) }
	stat := call(api.CallStat, path, space)
	// 1 lays /b ahead of 2's look, which finds /a still.
	results(t, []api.Exec{mkdir("/a"), fork(), stat, mkdir("/b"), call(api.CallRmdir, path), stat}, []int{0, 0, 0, 0, 0, 1},
		did(1, 0, 0), did(1, 1, 2), did(1, 2, 0), did(1, 3, 0), did(1, 4, 0),
		did(2, 2, 0),
		failed(1, 5, api.ENOENT),
		did(2, 3, 0), did(2, 4, 0), failed(2, 5, api.ENOENT))
}

// TestPicks: a pick is a number from 0 to below 2^64; behind the last one they are 0.
func TestPicks(t *testing.T) {
	// Behind two turns there are three processes.
	l := []api.Exec{fork(), fork(), getpid(), getpid()}
	first, second, third := did(1, 2, 1), did(2, 1, 4), did(3, 2, 3)
	for pick, want := range map[int]api.Result{
		0: first, 1: second, 2: third, 3: first, 4: second, 300: first,
		-1:              first,  // 2^64 - 1
		-2:              third,  // 2^64 - 2
		-3:              second, // 2^64 - 3
		math.MaxInt:     second, // 2^63 - 1
		math.MinInt:     third,  // 2^63
		math.MinInt + 1: first,
	} {
		r, e := run.Exec(l, 0, []int{0, 0, pick})
		if e != api.OK || r.Results[2] != want {
			t.Errorf("%d: %v, %v, want %v", pick, r, e, want)
		}
	}
	for _, picks := range [][]int{nil, {0, 0}, {5, -2}} {
		r, e := run.Exec(l, 0, picks)
		if e != api.OK || r.Results[2] != first {
			t.Errorf("%v: %v, %v", picks, r, e)
		}
	}
}

// TestPicksAreTaken: at each turn one: where there is no choice, where a call must wait, and at the program's end.
func TestPicksAreTaken(t *testing.T) {
	results(t, []api.Exec{getpid(), fork(), getpid()}, []int{0, 0, 1}, did(1, 0, 1), did(1, 1, 2), did(2, 2, 2), did(1, 2, 1))
	has := func(l []api.Exec, picks []int, place int, want api.Result) {
		t.Helper()
		if r, e := run.Exec(l, 0, picks); e != api.OK || len(r.Results) <= place || r.Results[place] != want {
			t.Errorf("%v: %+v, %v, want %v", picks, r, e, want)
		}
	}
	// At turn 2 1 must wait, of 2 and 3 the second one is next.
	has([]api.Exec{fork(), fork(), call(api.CallWait)}, []int{0, 0, 0, 1}, 2, failed(3, 2, api.ECHILD))
	// At turn 3 1 is at the end.
	has([]api.Exec{fork(), fork(), getpid()}, []int{0, 0, 0, 0, 1}, 3, did(3, 2, 3))
}

// TestWaking: whatever was done wakes who waits, an error too; a call that must wait wakes nobody.
func TestWaking(t *testing.T) {
	l := []api.Exec{fork(), fork(), call(api.CallWait), getpid(), getpid()}
	// 3 has failed at turn 3, so that at turn 4 there are 1, 2, 3, of which 2 is picked.
	r, e := run.Exec(l, 0, []int{0, 0, 0, 1, 1})
	if want := []api.Result{did(1, 0, 2), did(1, 1, 3), failed(3, 2, api.ECHILD), did(2, 1, 4)}; e != api.OK || !slices.Equal(r.Results[:4], want) {
		t.Errorf("%+v, %v", r, e)
	}
	// At turn 3 1 must wait, at turn 4 2 must, so that at turn 5 there are 3 and 4.
	r, e = run.Exec(l, 0, []int{0, 0, 1, 0, 0, 1})
	if want := []api.Result{did(1, 0, 2), did(1, 1, 3), did(2, 1, 4), failed(4, 2, api.ECHILD)}; e != api.OK || !slices.Equal(r.Results[:4], want) {
		t.Errorf("%+v, %v", r, e)
	}
}

// TestWaits: who must wait stays at its step, and has no result till it is done; its point is kept.
func TestWaits(t *testing.T) {
	pipe := call(api.CallPipe, space)
	read, write := call(api.CallRead, 0, other, 3), call(api.CallWrite, 1, path, 2)
	// Both read, and must wait.
	l := []api.Exec{pipe, fork(), read, write}
	execs(t, l, 0, nil, api.Report{
		Results: []api.Result{did(1, 0, 0), did(1, 1, 2)},
		Points:  []int{2*64 + 63, 14 * 64, 15 * 64},
		Cut:     true,
	})
	l = []api.Exec{pipe, fork(), word(call(api.CallClose, 0), 0, 1), read, write}
	// 2 closes 0, and fails to read; it writes, by which 1 goes on.
	execs(t, l, 0, []int{0, 0, 0, 1, 1, 1}, api.Report{
		Results: []api.Result{did(1, 0, 0), did(1, 1, 2), failed(1, 2, api.EBADF), did(2, 2, 0), failed(2, 3, api.EBADF), did(2, 4, 2), did(1, 3, 2), did(1, 4, 2)},
		Points:  []int{64, 64 + 9, 128, 128 + 9, 192, 14 * 64, 15 * 64},
	})
	// The same, but 1 tries each time that 2 has done something.
	execs(t, l, 0, []int{0, 0, 0, 0, 0, 0, 0, 0, 1}, api.Report{
		Results: []api.Result{did(1, 0, 0), did(1, 1, 2), failed(1, 2, api.EBADF), did(2, 2, 0), failed(2, 3, api.EBADF), did(2, 4, 2), did(1, 3, 2), did(1, 4, 2)},
		Points:  []int{64, 64 + 9, 128, 128 + 9, 191, 192, 14 * 64, 15 * 64},
	})
}

// TestWokenAtTheEnd: a process that comes to the program's end wakes the others.
func TestWokenAtTheEnd(t *testing.T) {
	l := []api.Exec{fork(), call(api.CallWait, space), getpid()}
	results(t, l, nil, did(1, 0, 2), failed(2, 1, api.ECHILD), did(2, 2, 2), did(1, 1, 2), did(1, 2, 1))
	// 1 has closed its writing end, descriptor 2, and reads 1; 2 has it, and can't read it: with 2 goes the last writer.
	l = []api.Exec{
		open("/a"), call(api.CallPipe, space), fork(),
		word(call(api.CallClose, 9), 0, 2), getpid(), word(call(api.CallRead, 9, other, 3), 0, 4),
	}
	results(t, l, nil,
		did(1, 0, 0), did(1, 1, 0), did(1, 2, 2), did(1, 3, 0), did(1, 4, 1),
		did(2, 3, 0), did(2, 4, 2), failed(2, 5, api.EBADF),
		did(1, 5, 0))
}

// TestBlocked: a run all of whose processes wait is cut off.
func TestBlocked(t *testing.T) {
	l := []api.Exec{call(api.CallPipe, space), call(api.CallRead, 0, other, 3)}
	execs(t, l, 0, nil, api.Report{Results: []api.Result{did(1, 0, 0)}, Points: []int{191, 896}, Cut: true})
	l = []api.Exec{call(api.CallPipe, space), call(api.CallClose, 1), call(api.CallRead, 0, other, 3)}
	execs(t, l, 0, nil, api.Report{Results: []api.Result{did(1, 0, 0), did(1, 1, 0), did(1, 2, 0)}, Points: []int{64, 128, 896}})
	l = []api.Exec{call(api.CallPipe, space), call(api.CallWrite, 1, path, 8), call(api.CallWrite, 1, path, 1)}
	execs(t, l, 0, nil, api.Report{Results: []api.Result{did(1, 0, 0), did(1, 1, 8)}, Points: []int{192, 255, 896}, Cut: true})
}

// TestKilled: a process that was ended goes on no more, whether it waits or not; one that has its number later begins anew.
func TestKilled(t *testing.T) {
	l := []api.Exec{open("/a"), fork(), word(call(api.CallKill, 9), 0, 1), call(api.CallWait), fork(), tell(1), tell(2), tell(3), tell(4)}
	results(t, l, nil,
		did(1, 0, 0), did(1, 1, 2), did(1, 2, 0), did(1, 3, 2), did(1, 4, 2), did(1, 5, 2), did(1, 6, 0), did(1, 7, 2), did(1, 8, 2),
		did(2, 5, 2), did(2, 6, 0), did(2, 7, 2), did(2, 8, 0))
	// 2 waits for a pipe when it is killed.
	l = []api.Exec{call(api.CallPipe, space), fork(), word(call(api.CallRead, 7, other, 1), 0, 1), word(call(api.CallKill, 9), 0, 1), getpid()}
	results(t, l, []int{0, 0, 1}, did(1, 0, 0), did(1, 1, 2), failed(1, 2, api.EBADF), did(1, 3, 0), did(1, 4, 1))
	// One that ends itself has a result of that.
	results(t, []api.Exec{call(api.CallExit, 7), getpid()}, nil, did(1, 0, 0))
	results(t, []api.Exec{call(api.CallKill, 1), getpid()}, nil, did(1, 0, 0))
}

// TestEnds: without forks there are as many results as steps, as far as it gets.
func TestEnds(t *testing.T) {
	l := slices.Repeat([]api.Exec{getpid()}, 64)
	r, e := run.Exec(l, 0, nil)
	if e != api.OK || len(r.Results) != 64 || r.Cut || !slices.Equal(r.Points, []int{1216}) {
		t.Error(r, e)
	}
	for i, x := range r.Results {
		if x != did(1, i, 1) {
			t.Error(i, x)
		}
	}
}
