package procs_test

import (
	"slices"
	"testing"

	"dredger/api"
	"dredger/procs"
)

func TestObjects(t *testing.T) {
	for what, x := range map[string]*procs.Table{"nil": nil, "a plain one": {}} {
		refused := func(call string) func(int, api.Err) {
			return func(n int, e api.Err) {
				t.Helper()
				if n != 0 || e != api.EINVAL {
					t.Errorf("%s: %s: %d, %v", what, call, n, e)
				}
			}
		}
		for _, pid := range append(notRunning(), 1, 2) {
			refused("Fork")(x.Fork(pid))
			refused("Wait")(waited(x.Wait(pid)))
			for _, n := range append(noDescriptors(), 0, 1, api.MaxFDs-1) {
				refused("Exit")(plain(x.Exit(pid, n)))
				refused("Kill")(plain(x.Kill(pid, n)))
				refused("Install")(x.Install(pid, n))
				refused("File")(x.File(pid, n))
				refused("Close")(plain(x.Close(pid, n)))
				refused("Dup")(x.Dup(pid, n))
				refused("Dup2")(x.Dup2(pid, n, 0))
				refused("Dup2")(x.Dup2(pid, 0, n))
			}
		}
		if len(x.Look()) != 0 || len(x.Running()) != 0 {
			t.Errorf("%s: Look or Running", what)
		}
	}
}

// scrawl writes over a list and the room behind it.
func scrawl[T any](list []T, x T) {
	list = list[:cap(list)]
	for i := range list {
		list[i] = x
	}
}

func TestLooksAreNew(t *testing.T) {
	w := full(t)
	w.forks(t, 1, 2)
	w.forks(t, 1, 3)
	before := w.state()
	one, two := w.Look(), w.Running()
	for range 2 {
		scrawl(w.Look(), api.ProcInfo{Number: -7, FDs: fds{-7, -7, -7, -7, -7, -7}})
		scrawl(w.Running(), -7)
		if !same(w.state(), before) {
			t.Error("what a table tells of itself is shared")
		}
	}
	if !slices.Equal(one, before.procs) || !slices.Equal(two, before.running) {
		t.Error("two answers share memory")
	}
	w.exits(t, 3, 1)
	fine(t, "Close", 0)(plain(w.Close(1, 0)))
	if !slices.Equal(one, before.procs) || !slices.Equal(two, before.running) {
		t.Error("what was told changes later")
	}
}

// TestTablesAreApart: what one does another one can't tell.
func TestTablesAreApart(t *testing.T) {
	one, two := newWorld(0), newWorld(0)
	one.opens(t, 1, "/a", 0)
	one.forks(t, 1, 2)
	if !same(two.state(), newWorld(0).state()) {
		t.Error("two tables share something")
	}
}

// TestTwoOverOneFiles: tables over the same open files have processes of their own, and share the files.
func TestTwoOverOneFiles(t *testing.T) {
	one := newWorld(0)
	one.opens(t, 1, "/a", 0)
	two := world{procs.New(one.files, 0), one.files}
	two.is(t, "the other one", runs(1, 0, fds{}))
	fine(t, "Install of the same", 0)(two.Install(1, 1))
	one.exits(t, 1, 0)
	two.is(t, "the other one", runs(1, 0, fds{1}))
	two.held(t, "it went with the first", nil)
}
