package procs_test

import (
	"fmt"
	"testing"

	"dredger/api"
)

// noDescriptors is numbers that no descriptor has.
func noDescriptors() []int { return []int{-1 << 63, -1, api.MaxFDs, 1 << 32, 1<<63 - 1} }

// full is a world whose process 1 has all its descriptors, of three open files, the last of which is of a pipe.
func full(t *testing.T) world {
	t.Helper()
	w := newWorld(0)
	w.opens(t, 1, "/a", 0)
	r, writer, e := w.files.Pipe()
	if e != 0 {
		t.Fatal(e)
	}
	fine(t, "Install", 1)(w.Install(1, r))
	fine(t, "Install", 2)(w.Install(1, writer))
	for fd := 3; fd < api.MaxFDs; fd++ {
		fine(t, "Dup", fd)(w.Dup(1, fd-3))
	}
	return w
}

func TestInstall(t *testing.T) {
	w := newWorld(0)
	for _, n := range []int{-1 << 63, -1, 0, 1, 2, api.MaxFiles, api.MaxFiles + 1, 1<<63 - 1} {
		w.refuses(t, fmt.Sprint("Install of ", n), api.EBADF, func() (int, api.Err) { return w.Install(1, n) })
	}
	w.opens(t, 1, "/a", 0)
	w.opens(t, 1, "/b", 1)
	w.opens(t, 1, "/c", 2)
	fine(t, "Close", 0)(plain(w.Close(1, 1)))
	w.refuses(t, "Install of what went", api.EBADF, func() (int, api.Err) { return w.Install(1, 2) })
	fine(t, "Install of the same once more", 1)(w.Install(1, 3))
	w.held(t, "Install does not hold", map[int]int{1: 1, 3: 1})
	w.is(t, "Install", runs(1, 0, fds{1, 3, 3}))
	w.opens(t, 1, "/d", 3)
	w.opens(t, 1, "/e", 4)
	w.opens(t, 1, "/f", 5)
	w.refuses(t, "Install without a free one", api.EMFILE, func() (int, api.Err) { return w.Install(1, 1) })
	w.refuses(t, "Install of nothing without a free one", api.EBADF, func() (int, api.Err) { return w.Install(1, 9) })
	w.forks(t, 1, 2)
	fine(t, "Close", 0)(plain(w.Close(1, 4)))
	w.refuses(t, "Install in another process", api.EMFILE, func() (int, api.Err) { return w.Install(2, 1) })
	fine(t, "Install", 4)(w.Install(1, 1))
}

func TestFile(t *testing.T) {
	w := full(t)
	for fd, want := range []int{1, 2, 3, 1, 2, 3} {
		fine(t, fmt.Sprint("File of ", fd), want)(w.File(1, fd))
	}
	for _, fd := range noDescriptors() {
		w.refuses(t, fmt.Sprint("File of ", fd), api.EBADF, func() (int, api.Err) { return w.File(1, fd) })
	}
	w.forks(t, 1, 2)
	fine(t, "Close", 0)(plain(w.Close(1, 2)))
	w.refuses(t, "File of an empty one", api.EBADF, func() (int, api.Err) { return w.File(1, 2) })
	fine(t, "File of a child", 3)(w.File(2, 2))
}

func TestClose(t *testing.T) {
	w := full(t)
	for _, fd := range noDescriptors() {
		w.refuses(t, fmt.Sprint("Close of ", fd), api.EBADF, func() (int, api.Err) { return plain(w.Close(1, fd)) })
	}
	left := fds{1, 2, 3, 1, 2, 3}
	held := map[int]int{1: 2, 2: 2, 3: 2}
	for _, fd := range []int{4, 0, 5, 2, 3, 1} {
		fine(t, "Close", 0)(plain(w.Close(1, fd)))
		held[left[fd]]--
		left[fd] = 0
		w.is(t, fmt.Sprint("Close of ", fd), runs(1, 0, left))
		w.held(t, fmt.Sprint("Close of ", fd), held)
		w.refuses(t, "Close of an empty one", api.EBADF, func() (int, api.Err) { return plain(w.Close(1, fd)) })
	}
	if len(w.files.Pipes()) != 0 {
		t.Error("a pipe without ends is there:", w.files.Pipes())
	}
}

func TestDup(t *testing.T) {
	w := full(t)
	for fd := range api.MaxFDs {
		w.refuses(t, "Dup without a free one", api.EMFILE, func() (int, api.Err) { return w.Dup(1, fd) })
	}
	for _, fd := range noDescriptors() {
		w.refuses(t, fmt.Sprint("Dup of ", fd, ", none is free"), api.EBADF, func() (int, api.Err) { return w.Dup(1, fd) })
	}
	for _, fd := range []int{4, 2, 5} {
		fine(t, "Close", 0)(plain(w.Close(1, fd)))
	}
	for _, fd := range append(noDescriptors(), 2, 4, 5) {
		w.refuses(t, fmt.Sprint("Dup of ", fd), api.EBADF, func() (int, api.Err) { return w.Dup(1, fd) })
	}
	fine(t, "Dup", 2)(w.Dup(1, 3))
	fine(t, "Dup", 4)(w.Dup(1, 1))
	fine(t, "Dup", 5)(w.Dup(1, 4))
	w.is(t, "Dup", runs(1, 0, fds{1, 2, 1, 1, 2, 2}))
	w.held(t, "Dup", map[int]int{1: 3, 2: 3})
}

func TestDup2(t *testing.T) {
	w := full(t)
	fine(t, "Close", 0)(plain(w.Close(1, 4)))
	for _, fd := range append(noDescriptors(), 4) {
		for _, to := range []int{0, 1, 4, 5, -1, 6} {
			w.refuses(t, fmt.Sprint("Dup2 of ", fd, to), api.EBADF, func() (int, api.Err) { return w.Dup2(1, fd, to) })
		}
		w.refuses(t, fmt.Sprint("Dup2 of ", fd, " to itself"), api.EBADF, func() (int, api.Err) { return w.Dup2(1, fd, fd) })
	}
	for _, to := range noDescriptors() {
		w.refuses(t, fmt.Sprint("Dup2 to ", to), api.EBADF, func() (int, api.Err) { return w.Dup2(1, 0, to) })
	}
	before := w.state()
	for _, fd := range []int{0, 1, 2, 3, 5} {
		fine(t, "Dup2 to itself", fd)(w.Dup2(1, fd, fd))
	}
	if !same(w.state(), before) {
		t.Error("Dup2 to itself has changed something")
	}
	fine(t, "Dup2 to an empty one", 4)(w.Dup2(1, 5, 4))
	w.is(t, "Dup2 to an empty one", runs(1, 0, fds{1, 2, 3, 1, 3, 3}))
	w.held(t, "Dup2 to an empty one", map[int]int{1: 2, 2: 1, 3: 3})
	fine(t, "Dup2 in place of the last", 1)(w.Dup2(1, 3, 1))
	w.is(t, "Dup2 in place of the last", runs(1, 0, fds{1, 1, 3, 1, 3, 3}))
	w.held(t, "Dup2 in place of the last", map[int]int{1: 3, 3: 3})
	fine(t, "Dup2 in place of the same", 0)(w.Dup2(1, 1, 0))
	w.is(t, "Dup2 in place of the same", runs(1, 0, fds{1, 1, 3, 1, 3, 3}))
	w.held(t, "Dup2 in place of the same", map[int]int{1: 3, 3: 3})
}
