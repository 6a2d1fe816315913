package kernel_test

import (
	"testing"

	"dredger/api"
)

func TestFork(t *testing.T) {
	m := furnished(t, 0)
	m.does(0, 1, api.CallOpen, atA, api.FlagRead)
	m.does(2, 1, api.CallFork)
	m.fds(2, 1)
	if a, b := m.Space(1).Bytes(), m.Space(2).Bytes(); string(a) != string(b) {
		t.Error("a child's memory is no copy")
	}
	m.does(3, 2, api.CallFork)
	m.does(4, 2, api.CallFork)
	for pid := 1; pid <= 4; pid++ {
		m.refuses(api.EAGAIN, pid, api.CallFork)
	}
	if l := m.Files().Look(); len(l) != 1 || l[0].Held != 4 {
		t.Error("open files:", l)
	}
	// They share the offset, and nothing of the memory.
	m.does(2, 2, api.CallRead, 0, atFree, 2)
	m.does(2, 3, api.CallRead, 0, atFree, 2)
	m.is(1, atFree, 0, 0)
	m.is(2, atFree, 'a', 'b')
	m.is(3, atFree, 'c', 'd')
	m.does(0, 4, api.CallExit, 0)
	m.refuses(api.EAGAIN, 1, api.CallFork)
	m.does(4, 2, api.CallWait, 0)
	m.does(4, 3, api.CallFork)
	m.is(4, atFree, 'c', 'd')
}

func TestExitAndWait(t *testing.T) {
	m := furnished(t, 0)
	m.refuses(api.ECHILD, 1, api.CallWait, 0)
	m.refuses(api.ECHILD, 1, api.CallWait, atFree)
	m.does(2, 1, api.CallFork)
	m.mustWait(1, api.CallWait, 0)
	m.mustWait(1, api.CallWait, atFree)
	for _, addr := range append(nowhere(), end-3) {
		m.refuses(api.EFAULT, 1, api.CallWait, addr)
		m.refuses(api.EFAULT, 2, api.CallWait, addr)
	}
	m.does(0, 2, api.CallExit, 300)
	for _, addr := range append(nowhere(), end-3) {
		m.refuses(api.EFAULT, 1, api.CallWait, addr)
	}
	m.does(2, 1, api.CallWait, end-4)
	m.is(1, end-4, 44, 0, 0, 0)
	m.refuses(api.ECHILD, 1, api.CallWait, end-4)
	m.does(2, 1, api.CallFork)
	m.does(0, 2, api.CallExit, -1)
	m.does(2, 1, api.CallWait, api.Base)
	m.is(1, api.Base, 255, 0, 0, 0)
	m.does(2, 1, api.CallFork)
	m.does(0, 2, api.CallExit, 5)
	before := m.Space(1).Bytes()
	m.does(2, 1, api.CallWait, 0)
	if string(m.Space(1).Bytes()) != string(before) {
		t.Error("a wait without an address has changed the memory")
	}
	m.does(0, 1, api.CallExit, 0)
	if l := m.Procs().Look(); len(l) != 0 {
		t.Error("processes:", l)
	}
	m.refuses(api.ESRCH, 1, api.CallExit, 0)
}

func TestKill(t *testing.T) {
	m := furnished(t, 0)
	m.does(2, 1, api.CallFork)
	m.does(3, 2, api.CallFork)
	for _, pid := range []int{-1 << 63, -1, 0, 4, api.MaxProcs + 1, 1<<63 - 1} {
		m.refuses(api.ESRCH, 1, api.CallKill, pid)
		m.refuses(api.ESRCH, 2, api.CallKill, pid)
	}
	m.refuses(api.EPERM, 2, api.CallKill, 1)
	m.does(0, 1, api.CallKill, 3)
	m.refuses(api.ESRCH, 2, api.CallKill, 3)
	m.does(3, 2, api.CallWait, atFree)
	m.is(2, atFree, 128, 0, 0, 0)
	m.does(0, 2, api.CallKill, 2)
	m.does(2, 1, api.CallWait, atFree)
	m.is(1, atFree, 128, 0, 0, 0)
	m.does(0, 1, api.CallKill, 1)
	if l := m.Procs().Look(); len(l) != 0 {
		t.Error("processes:", l)
	}
}
