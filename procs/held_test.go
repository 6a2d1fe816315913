package procs_test

import (
	"testing"

	"dredger/api"
	"dredger/files"
	"dredger/procs"
)

// use makes one call, as a kernel does: what is opened is installed, or dropped.
func (w world) use(n *numbers) {
	pid, fd := 1+n.next(api.MaxProcs), n.next(api.MaxFDs)
	switch n.next(9) {
	case 0:
		w.Fork(pid)
	case 1:
		if pid != 1 || n.next(6) == 0 {
			w.Exit(pid, fd)
		}
	case 2:
		w.Wait(pid)
	case 3:
		if target := 1 + n.next(api.MaxProcs); target != 1 || n.next(6) == 0 {
			w.Kill(pid, target)
		}
	case 4:
		w.Close(pid, fd)
	case 5:
		w.Dup(pid, fd)
	case 6:
		w.Dup2(pid, fd, n.next(api.MaxFDs))
	case 7:
		if file, e := w.files.Open("/a", api.FlagRead|api.FlagMake); e == 0 {
			w.installOrDrop(pid, file)
		}
	case 8:
		if r, writer, e := w.files.Pipe(); e == 0 {
			w.installOrDrop(pid, r)
			w.installOrDrop(pid, writer)
		}
	}
}

func (w world) installOrDrop(pid, file int) {
	if _, e := w.Install(pid, file); e != 0 {
		w.files.Drop(file)
	}
}

// asHeld is by how many descriptors each open file is had.
func (w world) asHeld() map[int]int {
	count := map[int]int{}
	for _, p := range w.Look() {
		for _, file := range p.FDs {
			if file != 0 {
				count[file]++
			}
		}
	}
	return count
}

// TestHeldByDescriptors: without defects each open file is held by as many descriptors as have it, and when no process runs there are none.
func TestHeldByDescriptors(t *testing.T) {
	over, shared := 0, 0
	for seed := range 300 {
		source := numbers(seed)
		w := newWorld(0)
		for range 150 {
			w.use(&source)
			had := w.asHeld()
			w.held(t, "behind any calls", had)
			for _, count := range had {
				if count > 3 {
					shared++
				}
			}
			if len(w.Running()) == 0 {
				over++
				if len(w.files.Look()) != 0 || len(w.files.Pipes()) != 0 || len(w.Look()) != 0 {
					t.Fatalf("no process runs: %v", w.state())
				}
				break
			}
		}
		if t.Failed() {
			t.Fatalf("seed %d", seed)
		}
	}
	if over < 20 || shared < 20 {
		t.Errorf("%d times no process ran, %d times a file was had often", over, shared)
	}
}

// TestDefectFork: a child's descriptors do not hold, so what the parent closes is gone for it, too.
func TestDefectFork(t *testing.T) {
	for _, defects := range []int{api.DefectFork, 63} {
		w := newWorld(defects)
		w.opens(t, 1, "/a", 0)
		w.forks(t, 1, 2)
		w.is(t, "Fork", runs(1, 0, fds{1}), runs(2, 1, fds{1}))
		w.held(t, "Fork", map[int]int{1: 1})
		fine(t, "Close", 0)(plain(w.Close(1, 0)))
		w.held(t, "Close of the parent's", nil)
		fine(t, "File of what is gone", 1)(w.File(2, 0))
		fine(t, "Dup of what is gone", 1)(w.Dup(2, 0))
		fine(t, "Dup2 of what is gone", 2)(w.Dup2(2, 0, 2))
		w.is(t, "Dup, Dup2", runs(1, 0, fds{}), runs(2, 1, fds{1, 1, 1}))
		fine(t, "Close of what is gone", 0)(plain(w.Close(2, 1)))
		w.is(t, "Close of what is gone", runs(1, 0, fds{}), runs(2, 1, fds{1, 0, 1}))
		w.held(t, "nothing", nil)
		// The number is given anew: what the child closes now is another one's.
		w.opens(t, 1, "/b", 0)
		w.held(t, "another one of the same number", map[int]int{1: 1})
		w.exits(t, 2, 0)
		w.held(t, "Exit", nil)
		w.is(t, "Exit", runs(1, 0, fds{1}), over(2, 1, 0))
	}
}

// TestDefectDup: what Dup2 replaces is held still.
func TestDefectDup(t *testing.T) {
	for _, defects := range []int{api.DefectDup, 63} {
		w := newWorld(defects)
		w.opens(t, 1, "/a", 0)
		w.opens(t, 1, "/b", 1)
		fine(t, "Dup2 in place", 1)(w.Dup2(1, 0, 1))
		w.is(t, "Dup2 in place", runs(1, 0, fds{1, 1}))
		w.held(t, "Dup2 in place", map[int]int{1: 2, 2: 1})
		fine(t, "Dup2 to an empty one", 2)(w.Dup2(1, 0, 2))
		w.held(t, "Dup2 to an empty one", map[int]int{1: 3, 2: 1})
		fine(t, "Dup2 to itself", 0)(w.Dup2(1, 0, 0))
		w.held(t, "Dup2 to itself", map[int]int{1: 3, 2: 1})
		w.exits(t, 1, 0)
		w.held(t, "Exit", map[int]int{2: 1})
	}
}

// TestDup2ClosesFirst: of a file that is held too seldom the last hold goes, ahead of being held once more.
func TestDup2ClosesFirst(t *testing.T) {
	w := newWorld(api.DefectFork)
	w.opens(t, 1, "/a", 0)
	fine(t, "Dup", 1)(w.Dup(1, 0))
	w.forks(t, 1, 2)
	fine(t, "Close", 0)(plain(w.Close(1, 0)))
	w.held(t, "one is left", map[int]int{1: 1})
	fine(t, "Dup2", 1)(w.Dup2(2, 0, 1))
	w.held(t, "Dup2", nil)
	w.is(t, "Dup2", runs(1, 0, fds{0, 1}), runs(2, 1, fds{1, 1}))
}

// TestWhoseDefects: a table has its own, whatever its open files have.
func TestWhoseDefects(t *testing.T) {
	f := files.New(63)
	w := world{procs.New(f, 0), f}
	w.opens(t, 1, "/a", 0)
	w.opens(t, 1, "/b", 1)
	w.forks(t, 1, 2)
	w.held(t, "Fork", map[int]int{1: 2, 2: 2})
	fine(t, "Dup2", 1)(w.Dup2(1, 0, 1))
	w.held(t, "Dup2", map[int]int{1: 3, 2: 1})
}
