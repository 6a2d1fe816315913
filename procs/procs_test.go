package procs_test

import (
	"fmt"
	"testing"

	"dredger/api"
	"dredger/files"
	"dredger/procs"
)

func TestNew(t *testing.T) {
	f := files.New(0)
	f.Open("/a", api.FlagRead|api.FlagMake)
	w := world{procs.New(f, 0), f}
	w.is(t, "a new table", runs(1, 0, fds{}))
	w.held(t, "a new table", map[int]int{1: 1})
	fine(t, "Install", 0)(w.Install(1, 1))
	if procs.New(nil, 0) != nil || procs.New(&files.Table{}, 0) != nil {
		t.Error("there are processes over what no call made")
	}
}

// TestExample is the chapter's.
func TestExample(t *testing.T) {
	w := newWorld(0)
	w.forks(t, 1, 2)
	if n, code, waits, e := w.Wait(1); n != 0 || code != 0 || !waits || e != 0 {
		t.Error("Wait for one that runs:", n, code, waits, e)
	}
	w.is(t, "it must wait", runs(1, 0, fds{}), runs(2, 1, fds{}))
	w.exits(t, 2, 7)
	if n, code, waits, e := w.Wait(1); n != 2 || code != 7 || waits || e != 0 {
		t.Error("Wait for one that is over:", n, code, waits, e)
	}
	w.refuses(t, "Wait without a child", api.ECHILD, func() (int, api.Err) { return waited(w.Wait(1)) })
}

// TestOnlyWhatRuns: of a process that does not run each call tells so, ahead of all else.
func TestOnlyWhatRuns(t *testing.T) {
	for _, kinds := range []string{"few", "full"} {
		w := newWorld(0)
		w.opens(t, 1, "/a", 0)
		for kinds == "full" && len(w.Look()) < api.MaxProcs {
			w.Fork(1)
		}
		for pid := 3; pid <= api.MaxProcs; pid++ {
			w.Exit(pid, pid)
		}
		for _, pid := range notRunning() {
			for _, n := range []int{-1 << 63, -1, 0, 1, 2, 3, api.MaxFDs, 1<<63 - 1} {
				of := func(call string) string { return fmt.Sprintf("%s: %s of process %d, %d", kinds, call, pid, n) }
				w.refuses(t, of("Fork"), api.ESRCH, func() (int, api.Err) { return w.Fork(pid) })
				w.refuses(t, of("Exit"), api.ESRCH, func() (int, api.Err) { return plain(w.Exit(pid, n)) })
				w.refuses(t, of("Wait"), api.ESRCH, func() (int, api.Err) { return waited(w.Wait(pid)) })
				w.refuses(t, of("Kill"), api.ESRCH, func() (int, api.Err) { return plain(w.Kill(pid, n)) })
				w.refuses(t, of("Kill by 1"), api.ESRCH, func() (int, api.Err) { return plain(w.Kill(1, pid)) })
				w.refuses(t, of("Install"), api.ESRCH, func() (int, api.Err) { return w.Install(pid, n) })
				w.refuses(t, of("File"), api.ESRCH, func() (int, api.Err) { return w.File(pid, n) })
				w.refuses(t, of("Close"), api.ESRCH, func() (int, api.Err) { return plain(w.Close(pid, n)) })
				w.refuses(t, of("Dup"), api.ESRCH, func() (int, api.Err) { return w.Dup(pid, n) })
				w.refuses(t, of("Dup2"), api.ESRCH, func() (int, api.Err) { return w.Dup2(pid, n, 0) })
			}
		}
	}
}

func TestFork(t *testing.T) {
	w := newWorld(0)
	w.opens(t, 1, "/a", 0)
	w.opens(t, 1, "/b", 1)
	w.opens(t, 1, "/c", 2)
	fine(t, "Dup2", 5)(w.Dup2(1, 1, 5))
	fine(t, "Close", 0)(plain(w.Close(1, 0)))
	w.forks(t, 1, 2)
	of := fds{0, 2, 3, 0, 0, 2}
	w.is(t, "a child", runs(1, 0, of), runs(2, 1, of))
	w.held(t, "a child", map[int]int{2: 4, 3: 2})
	fine(t, "Close", 0)(plain(w.Close(2, 1)))
	w.is(t, "a child's descriptors are its own", runs(1, 0, of), runs(2, 1, fds{0, 0, 3, 0, 0, 2}))
	w.forks(t, 2, 3)
	w.is(t, "a child's child", runs(1, 0, of), runs(2, 1, fds{0, 0, 3, 0, 0, 2}), runs(3, 2, fds{0, 0, 3, 0, 0, 2}))
	w.held(t, "a child's child", map[int]int{2: 4, 3: 3})
}

// TestForkTakesTheLeastNumber: one that is over has its number still.
func TestForkTakesTheLeastNumber(t *testing.T) {
	w := newWorld(0)
	w.forks(t, 1, 2)
	w.forks(t, 1, 3)
	w.forks(t, 2, 4)
	for _, pid := range []int{1, 2, 3, 4} {
		w.refuses(t, "Fork beyond MaxProcs", api.EAGAIN, func() (int, api.Err) { return w.Fork(pid) })
	}
	w.exits(t, 3, 9)
	w.refuses(t, "Fork beside one that is over", api.EAGAIN, func() (int, api.Err) { return w.Fork(1) })
	w.exits(t, 4, 8)
	if n, code, _, e := w.Wait(2); n != 4 || code != 8 || e != 0 {
		t.Fatal(n, code, e)
	}
	w.forks(t, 2, 4)
	if n, _, _, e := w.Wait(1); n != 3 || e != 0 {
		t.Fatal(n, e)
	}
	w.exits(t, 2, 0)
	w.Wait(1)
	w.forks(t, 4, 2)
	w.forks(t, 1, 3)
	w.is(t, "numbers anew", runs(1, 0, fds{}), runs(2, 4, fds{}), runs(3, 1, fds{}), runs(4, 0, fds{}))
}

// TestExitsCode: its lowest byte is kept.
func TestExitsCode(t *testing.T) {
	for code, want := range map[int]int{0: 0, 1: 1, 127: 127, 128: 128, 255: 255, 256: 0, 263: 7, -1: 255, -128: 128, -256: 0, -257: 255, 1<<63 - 1: 255, -1 << 63: 0, 1<<40 + 9: 9} {
		w := newWorld(0)
		w.forks(t, 1, 2)
		w.exits(t, 2, code)
		w.is(t, "Exit", runs(1, 0, fds{}), over(2, 1, want))
		if n, got, waits, e := w.Wait(1); n != 2 || got != want || waits || e != 0 {
			t.Errorf("Exit with %d: %d, %d, %v, %v, want %d", code, n, got, waits, e, want)
		}
		w.is(t, "Wait", runs(1, 0, fds{}))
	}
}

// TestExitClosesAll descriptors: none of them has an open file, and these are held less.
func TestExitClosesAll(t *testing.T) {
	w := newWorld(0)
	for fd, path := range []string{"/a", "/b", "/c", "/a", "/b"} {
		w.opens(t, 1, path, fd)
	}
	fine(t, "Dup", 5)(w.Dup(1, 2))
	w.forks(t, 1, 2)
	fine(t, "Close", 0)(plain(w.Close(1, 0)))
	w.held(t, "two processes", map[int]int{1: 1, 2: 2, 3: 4, 4: 2, 5: 2})
	w.exits(t, 2, 3)
	w.is(t, "one is over", runs(1, 0, fds{0, 2, 3, 4, 5, 3}), over(2, 1, 3))
	w.held(t, "one is over", map[int]int{2: 1, 3: 2, 4: 1, 5: 1})
	w.exits(t, 1, 3)
	w.is(t, "all are over")
	w.held(t, "all are over", nil)
}

// TestExitAndKin: which of its kin go with a process, and whether it goes itself.
func TestExitAndKin(t *testing.T) {
	w := newWorld(0)
	w.forks(t, 1, 2)
	w.forks(t, 2, 3)
	w.forks(t, 2, 4)
	w.exits(t, 4, 44)
	w.is(t, "a grandchild is over", runs(1, 0, fds{}), runs(2, 1, fds{}), runs(3, 2, fds{}), over(4, 2, 44))
	w.exits(t, 2, 22)
	w.is(t, "its parent is over", runs(1, 0, fds{}), over(2, 1, 22), runs(3, 0, fds{}))
	w.exits(t, 3, 33)
	w.is(t, "one without a parent is over", runs(1, 0, fds{}), over(2, 1, 22))
	w.exits(t, 1, 11)
	w.is(t, "the first one is over")
	for pid := range api.MaxProcs + 2 {
		w.refuses(t, "Fork of nobody", api.ESRCH, func() (int, api.Err) { return w.Fork(pid) })
	}
}

// TestTheFirstGoes, and others are there still, without a parent; one of them may make another process 1.
func TestTheFirstGoes(t *testing.T) {
	w := newWorld(0)
	w.forks(t, 1, 2)
	w.forks(t, 1, 3)
	w.exits(t, 3, 5)
	w.exits(t, 1, 0)
	w.is(t, "the first one is over", runs(2, 0, fds{}))
	w.refuses(t, "Wait of one without a child", api.ECHILD, func() (int, api.Err) { return waited(w.Wait(2)) })
	w.forks(t, 2, 1)
	w.is(t, "a child of number 1", runs(1, 2, fds{}), runs(2, 0, fds{}))
	w.refuses(t, "Kill of number 1", api.EPERM, func() (int, api.Err) { return plain(w.Kill(2, 1)) })
	w.exits(t, 1, 6)
	w.is(t, "a child of number 1 is over", over(1, 2, 6), runs(2, 0, fds{}))
	w.refuses(t, "Kill of what is over", api.ESRCH, func() (int, api.Err) { return plain(w.Kill(2, 1)) })
}

func TestWait(t *testing.T) {
	w := newWorld(0)
	w.forks(t, 1, 2)
	w.forks(t, 1, 3)
	w.forks(t, 2, 4)
	w.refuses(t, "Wait of one without a child", api.ECHILD, func() (int, api.Err) { return waited(w.Wait(3)) })
	w.exits(t, 4, 40)
	before := w.state()
	if n, code, waits, e := w.Wait(1); n != 0 || code != 0 || !waits || e != 0 || !same(w.state(), before) {
		t.Error("another one's child is over:", n, code, waits, e)
	}
	w.exits(t, 3, 30)
	if n, code, waits, e := w.Wait(1); n != 3 || code != 30 || waits || e != 0 {
		t.Error("one runs, one is over:", n, code, waits, e)
	}
	w.is(t, "it went", runs(1, 0, fds{}), runs(2, 1, fds{}), over(4, 2, 40))
	w.forks(t, 1, 3)
	w.exits(t, 3, 31)
	w.exits(t, 2, 20)
	w.is(t, "two are over", runs(1, 0, fds{}), over(2, 1, 20), over(3, 1, 31))
	for _, want := range [][2]int{{2, 20}, {3, 31}} {
		if n, code, waits, e := w.Wait(1); n != want[0] || code != want[1] || waits || e != 0 {
			t.Error("the lowest first:", n, code, waits, e)
		}
	}
	w.is(t, "both went", runs(1, 0, fds{}))
	w.refuses(t, "Wait behind the last", api.ECHILD, func() (int, api.Err) { return waited(w.Wait(1)) })
}

func TestKill(t *testing.T) {
	w := newWorld(0)
	w.opens(t, 1, "/a", 0)
	w.forks(t, 1, 2)
	w.forks(t, 2, 3)
	w.forks(t, 1, 4)
	w.refuses(t, "Kill of 1 by another", api.EPERM, func() (int, api.Err) { return plain(w.Kill(2, 1)) })
	fine(t, "Kill of another's child", 0)(plain(w.Kill(4, 3)))
	w.is(t, "Kill", runs(1, 0, fds{1}), runs(2, 1, fds{1}), over(3, 2, 128), runs(4, 1, fds{1}))
	w.held(t, "Kill", map[int]int{1: 3})
	w.refuses(t, "Kill of what is over", api.ESRCH, func() (int, api.Err) { return plain(w.Kill(4, 3)) })
	fine(t, "Kill of its parent", 0)(plain(w.Kill(4, 2)))
	w.is(t, "its child that is over goes", runs(1, 0, fds{1}), over(2, 1, 128), runs(4, 1, fds{1}))
	fine(t, "Kill of itself", 0)(plain(w.Kill(4, 4)))
	w.is(t, "Kill of itself", runs(1, 0, fds{1}), over(2, 1, 128), over(4, 1, 128))
	fine(t, "Kill of 1 by itself", 0)(plain(w.Kill(1, 1)))
	w.is(t, "nobody is left")
	w.held(t, "nobody is left", nil)
}
