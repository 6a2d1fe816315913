package kernel_test

import (
	"bytes"
	"testing"

	"dredger/api"
	"dredger/kernel"
)

func TestNew(t *testing.T) {
	m := newMachine(t, 0)
	if l := m.Procs().Look(); len(l) != 1 || l[0] != (api.ProcInfo{Number: 1, State: api.ProcRuns}) {
		t.Error("processes:", l)
	}
	if len(m.Files().Look()) != 0 || len(m.Files().Nodes()) != 1 || len(m.Files().Pipes()) != 0 || len(m.Files().Blocks()) != 0 {
		t.Error("files:", stateOf(m.Kernel))
	}
	if !bytes.Equal(m.Space(1).Bytes(), make([]byte, api.Memory)) {
		t.Error("memory that is not of noughts")
	}
}

// TestExample is the chapter's.
func TestExample(t *testing.T) {
	m := newMachine(t, 0)
	m.put(1, 4096, "/a")
	m.does(0, 1, api.CallOpen, 4096, api.FlagMake|api.FlagWrite)
	m.does(2, 1, api.CallWrite, 0, 4096, 2)
	m.refuses(api.EBADF, 1, api.CallRead, 0, 4096, 1)
}

func TestWhoCalls(t *testing.T) {
	m := furnished(t, 0)
	m.does(2, 1, api.CallFork)
	m.does(3, 2, api.CallFork)
	m.does(0, 3, api.CallExit, 3)
	numbers := []int{-1 << 63, -1, api.NumCalls, api.NumCalls + 1, 1 << 40, 1<<63 - 1}
	for _, pid := range []int{-1 << 63, -1, 0, 3, 4, api.MaxProcs + 1, 1<<63 - 1} {
		for number := range api.NumCalls {
			m.refuses(api.ESRCH, pid, number)
			m.refuses(api.ESRCH, pid, number, atNone, api.FlagMake|api.FlagWrite, 0)
		}
		for _, number := range numbers {
			m.refuses(api.ESRCH, pid, number, atA)
		}
	}
	for _, pid := range []int{1, 2} {
		for _, number := range numbers {
			m.refuses(api.ENOSYS, pid, number)
			m.refuses(api.ENOSYS, pid, number, atA, atB, atDir, atIn)
		}
		m.does(pid, pid, api.CallGetpid)
		m.does(pid, pid, api.CallGetpid, 7, 8, 9)
	}
}

// TestWords: those that are missing are 0, further ones play no part.
func TestWords(t *testing.T) {
	m := furnished(t, 0)
	m.refuses(api.EFAULT, 1, api.CallOpen)
	m.refuses(api.EINVAL, 1, api.CallOpen, atA)
	m.refuses(api.EBADF, 1, api.CallClose)
	m.refuses(api.EBADF, 1, api.CallRead)
	m.refuses(api.EFAULT, 1, api.CallLink, atA)
	m.refuses(api.EFAULT, 1, api.CallStat, atA)
	m.refuses(api.EFAULT, 1, api.CallPipe)
	m.refuses(api.ESRCH, 1, api.CallKill)
	m.refuses(api.ECHILD, 1, api.CallWait)
	m.does(0, 1, api.CallOpen, atA, api.FlagRead, -1, -1, -1)
	m.refuses(api.EFAULT, 1, api.CallRead)
	m.does(0, 1, api.CallRead, 0, atFree)
	m.does(6, 1, api.CallRead, 0, atFree, 20, 4, 5)
	m.does(0, 1, api.CallSeek)
	m.does(0, 1, api.CallDup2)
	m.does(1, 1, api.CallDup)
	m.does(2, 1, api.CallDup, 0, 5)
	m.does(0, 1, api.CallTruncate, atA)
	m.does(0, 1, api.CallClose)
	m.does(0, 1, api.CallUnlink, atA, 0, 0, -1)
	m.does(2, 1, api.CallFork, 9, 9)
	m.does(0, 2, api.CallExit)
	m.does(2, 1, api.CallWait)
}

func TestSpace(t *testing.T) {
	m := newMachine(t, 0)
	one := m.Space(1)
	m.put(1, 5000, "one")
	m.does(2, 1, api.CallFork)
	two := m.Space(2)
	if one == two || one != m.Space(1) || two != m.Space(2) {
		t.Error("not one memory for each process, the same at each call")
	}
	m.is(2, 5000, 'o', 'n', 'e', 0)
	m.put(1, 5000, "ONE")
	m.put(2, 5010, "two")
	m.is(2, 5000, 'o', 'n', 'e')
	m.is(1, 5010, 0, 0, 0)
	m.does(3, 2, api.CallFork)
	m.is(3, 5010, 't', 'w', 'o')
	for _, pid := range []int{-1 << 63, -1, 0, 4, api.MaxProcs + 1, 1<<63 - 1} {
		if m.Space(pid) != nil {
			t.Errorf("process %d has a memory", pid)
		}
	}
	m.does(0, 2, api.CallExit, 1)
	if m.Space(2) != nil || m.Space(1) != one {
		t.Error("the memory of one that is over")
	}
	m.does(2, 1, api.CallWait, 0)
	m.does(2, 1, api.CallFork)
	m.is(2, 5000, 'O', 'N', 'E', 0, 0, 0, 0, 0, 0, 0, 0)
	if m.Space(2) == two {
		t.Error("another process has the memory of one that went")
	}
	m.does(0, 1, api.CallKill, 3)
	if m.Space(3) != nil {
		t.Error("the memory of one that was killed")
	}
	m.does(0, 2, api.CallKill, 2)
	m.does(0, 1, api.CallExit, 0)
	if m.Space(1) != nil || m.Space(2) != nil {
		t.Error("nobody runs")
	}
}

// TestProcessesMadeBelow: Procs hands out the object itself, which others may call.
func TestProcessesMadeBelow(t *testing.T) {
	m := furnished(t, 0)
	m.Space(1)
	if n, e := m.Procs().Fork(1); n != 2 || e != 0 {
		t.Fatal(n, e)
	}
	for number := range api.NumCalls {
		if number != api.CallExit && number != api.CallKill {
			m.Call(2, number, []int{atA, atB, 3})
		}
	}
	m.does(2, 2, api.CallGetpid)
	if s := m.Space(2); s == nil || s != m.Space(2) || s == m.Space(1) {
		t.Error("a process made below has no memory of its own")
	}
	if e := m.Procs().Kill(1, 2); e != 0 {
		t.Fatal(e)
	}
	if m.Space(2) != nil {
		t.Error("a process that was ended below has a memory")
	}
	m.refuses(api.ESRCH, 2, api.CallGetpid)
	m.Procs().Exit(1, 0)
	if m.Space(1) != nil {
		t.Error("process 1 was ended below, and has a memory")
	}
	m.refuses(api.ESRCH, 1, api.CallGetpid)
}

// TestMemoryIsNotLeft: a process made below has nothing of one that had its number.
func TestMemoryIsNotLeft(t *testing.T) {
	m := furnished(t, 0)
	m.does(2, 1, api.CallFork)
	m.does(0, 2, api.CallExit, 0)
	m.does(2, 1, api.CallWait, 0)
	if n, e := m.Procs().Fork(1); n != 2 || e != 0 {
		t.Fatal(n, e)
	}
	if !bytes.Equal(m.Space(2).Bytes(), make([]byte, api.Memory)) {
		t.Error("the memory of one that went is there")
	}
}

func TestWhatIsBelow(t *testing.T) {
	m := newMachine(t, 0)
	if m.Files() != m.Files() || m.Procs() != m.Procs() {
		t.Error("not the objects themselves")
	}
	n, e := m.Files().Open("/a", api.FlagMake|api.FlagRead)
	if n != 1 || e != 0 {
		t.Fatal(n, e)
	}
	if fd, e := m.Procs().Install(1, n); fd != 0 || e != 0 {
		t.Fatal(fd, e)
	}
	m.does(1, 1, api.CallDup, 0)
	if l := m.Files().Look(); len(l) != 1 || l[0].Held != 2 {
		t.Error("the processes stand over other files:", l)
	}
}

func TestPoint(t *testing.T) {
	for number := -3; number <= api.NumCalls+3; number++ {
		for e := api.Err(-3); e < 70; e++ {
			point, waits := 0, 0
			if number >= 0 && number < 20 && e >= 0 && e <= 62 {
				point, waits = number*64+int(e), number*64+63
			}
			if got := kernel.Point(number, e, false); got != point {
				t.Errorf("Point(%d, %d): %d, want %d", number, e, got, point)
			}
			if got := kernel.Point(number, e, true); got != waits {
				t.Errorf("Point(%d, %d), it waits: %d, want %d", number, e, got, waits)
			}
		}
	}
	for _, n := range []int{-1 << 63, 1<<63 - 1, 1 << 58, 1 << 32} {
		if kernel.Point(n, 0, false) != 0 || kernel.Point(n, 0, true) != 0 || kernel.Point(1, api.Err(n), false) != 0 || kernel.Point(n, api.Err(n), true) != 0 {
			t.Errorf("a point of %d", n)
		}
	}
}

// TestPointsOfCalls: each call's outcome has a point of its own.
func TestPointsOfCalls(t *testing.T) {
	seen := map[int]bool{}
	for number := range api.NumCalls {
		for e := range api.Err(63) {
			seen[kernel.Point(number, e, false)] = true
		}
		seen[kernel.Point(number, 0, true)] = true
	}
	if len(seen) != 64*api.NumCalls {
		t.Errorf("%d points, want %d", len(seen), 64*api.NumCalls)
	}
}
