package kernel_test

import (
	"testing"

	"dredger/api"
)

func TestOpen(t *testing.T) {
	m := furnished(t, 0)
	m.wrongPaths(api.CallOpen, 0, 0, api.FlagRead)
	m.wrongPaths(api.CallOpen, 0, 0, 64)
	m.wrongWalks(api.CallOpen, 0, 0, api.FlagRead)
	m.refuses(api.EINVAL, 1, api.CallOpen, atA, 64|api.FlagRead)
	m.refuses(api.EINVAL, 1, api.CallOpen, atA, api.FlagMake)
	m.refuses(api.ENOENT, 1, api.CallOpen, atNone, api.FlagRead)
	m.refuses(api.EISDIR, 1, api.CallOpen, atDir, api.FlagWrite)
	m.refuses(api.EEXIST, 1, api.CallOpen, atA, api.FlagRead|api.FlagMake|api.FlagOnly)
	m.does(0, 1, api.CallOpen, atDir, api.FlagRead)
	m.does(1, 1, api.CallOpen, atA, api.FlagRead|api.FlagWrite)
	m.does(2, 1, api.CallOpen, atNone, api.FlagRead|api.FlagMake)
	m.does(0, 1, api.CallClose, 1)
	m.does(1, 1, api.CallOpen, atIn, api.FlagWrite)
	m.fds(1, 1, 2, 3)
	want := []api.OpenInfo{
		{Number: 1, Kind: api.OpenFile, Of: 2, Flags: api.FlagRead, Held: 1},
		{Number: 2, Kind: api.OpenFile, Of: 5, Flags: api.FlagWrite, Held: 1},
		{Number: 3, Kind: api.OpenFile, Of: 6, Flags: api.FlagRead | api.FlagMake, Held: 1},
	}
	got := m.Files().Look()
	if len(got) != 3 || got[0] != want[0] || got[1] != want[1] || got[2] != want[2] {
		t.Errorf("%v, want %v", got, want)
	}
}

// TestOpenWithoutADescriptor: what was opened is dropped; a file that was made, or cut, stays so.
func TestOpenWithoutADescriptor(t *testing.T) {
	m := furnished(t, 0)
	m.does(0, 1, api.CallOpen, atB, api.FlagRead)
	for fd := 1; fd < api.MaxFDs; fd++ {
		m.does(fd, 1, api.CallDup, 0)
	}
	m.refuses(api.EMFILE, 1, api.CallOpen, atA, api.FlagRead)
	m.refuses(api.ENOENT, 1, api.CallOpen, atNone, api.FlagRead)
	open := m.Files().Look()
	for _, path := range []int{atNone, atA} {
		if v, e, waits := m.Call(1, api.CallOpen, []int{path, api.FlagWrite | api.FlagMake | api.FlagCut}); v != 0 || e != api.EMFILE || waits {
			t.Error(v, e, waits)
		}
	}
	if l := m.Files().Look(); len(l) != 1 || l[0] != open[0] {
		t.Errorf("open files are left: %v", l)
	}
	for path, size := range map[string]int{"/n": 0, "/a": 0} {
		if info, e := m.Files().Stat(path); e != 0 || info != (api.Info{Kind: api.NodeFile, Links: 1, Size: size}) {
			t.Errorf("%s: %v, %v", path, info, e)
		}
	}
	if len(m.Files().Blocks()) != 0 {
		t.Error("a file that was cut has blocks")
	}
}

func TestClose(t *testing.T) {
	m := furnished(t, 0)
	m.does(0, 1, api.CallOpen, atA, api.FlagRead)
	m.does(1, 1, api.CallDup, 0)
	for _, fd := range noDescriptors() {
		m.refuses(api.EBADF, 1, api.CallClose, fd)
	}
	m.does(0, 1, api.CallClose, 0)
	m.fds(1, 0, 1)
	m.refuses(api.EBADF, 1, api.CallClose, 0)
	m.does(0, 1, api.CallClose, 1)
	m.fds(1)
	if len(m.Files().Look()) != 0 {
		t.Error("what was closed is open")
	}
}

func TestRead(t *testing.T) {
	m := furnished(t, 0)
	m.does(0, 1, api.CallOpen, atA, api.FlagRead)
	m.does(1, 1, api.CallOpen, atA, api.FlagWrite)
	m.does(2, 1, api.CallOpen, atDir, api.FlagRead)
	// The descriptor ahead of the count, that ahead of the address, that ahead of what the open file tells.
	for _, fd := range noDescriptors() {
		m.refuses(api.EBADF, 1, api.CallRead, fd, atFree, 1)
		m.refuses(api.EBADF, 1, api.CallRead, fd, 0, -1)
	}
	for _, fd := range []int{0, 1, 2} {
		for _, count := range []int{-1, -1 << 63} {
			m.refuses(api.EINVAL, 1, api.CallRead, fd, atFree, count)
			m.refuses(api.EINVAL, 1, api.CallRead, fd, 0, count)
		}
		for _, addr := range nowhere() {
			for _, count := range []int{1, 7, api.Memory, api.Memory + 1, 1<<63 - 1} {
				m.refuses(api.EFAULT, 1, api.CallRead, fd, addr, count)
			}
		}
		m.refuses(api.EFAULT, 1, api.CallRead, fd, 0, 0)
		m.refuses(api.EFAULT, 1, api.CallRead, fd, end+1, 0)
		m.refuses(api.EFAULT, 1, api.CallRead, fd, end-1, 2)
		m.refuses(api.EFAULT, 1, api.CallRead, fd, api.Base, api.Memory+1)
		m.refuses(api.EFAULT, 1, api.CallRead, fd, api.Base+1, api.Memory)
		m.refuses(api.EFAULT, 1, api.CallRead, fd, api.Base, 1<<63-1)
	}
	m.refuses(api.EBADF, 1, api.CallRead, 1, atFree, 1)
	m.refuses(api.EISDIR, 1, api.CallRead, 2, atFree, 1)
	m.does(0, 1, api.CallRead, 0, end, 0)
	m.does(0, 1, api.CallRead, 0, api.Base, 0)
	m.does(2, 1, api.CallRead, 0, atFree, 2)
	m.is(1, atFree, 'a', 'b', 0)
	m.does(1, 1, api.CallRead, 0, end-1, 1)
	m.is(1, end-4, '/', 'a', 'b', 'c')
	m.does(3, 1, api.CallRead, 0, atFree+10, 100)
	m.is(1, atFree+9, 0, 'd', 'e', 'f', 0)
	m.does(0, 1, api.CallRead, 0, atFree, 100)
	m.is(1, atFree, 'a', 'b', 0)
	m.does(1, 1, api.CallSeek, 0, 1)
	m.does(5, 1, api.CallRead, 0, api.Base, api.Memory)
	m.is(1, api.Base, 'b', 'c', 'd', 'e', 'f')
}

func TestWrite(t *testing.T) {
	m := furnished(t, 0)
	m.does(0, 1, api.CallOpen, atB, api.FlagRead)
	m.does(1, 1, api.CallOpen, atB, api.FlagWrite)
	for _, fd := range noDescriptors() {
		m.refuses(api.EBADF, 1, api.CallWrite, fd, atData, 1)
		m.refuses(api.EBADF, 1, api.CallWrite, fd, 0, -1)
	}
	for _, fd := range []int{0, 1} {
		for _, count := range []int{-1, -1 << 63} {
			m.refuses(api.EINVAL, 1, api.CallWrite, fd, atData, count)
			m.refuses(api.EINVAL, 1, api.CallWrite, fd, 0, count)
		}
		for _, addr := range nowhere() {
			for _, count := range []int{1, 7, api.Memory, api.Memory + 1, 1<<63 - 1} {
				m.refuses(api.EFAULT, 1, api.CallWrite, fd, addr, count)
			}
		}
		m.refuses(api.EFAULT, 1, api.CallWrite, fd, 0, 0)
		m.refuses(api.EFAULT, 1, api.CallWrite, fd, end-1, 2)
		m.refuses(api.EFAULT, 1, api.CallWrite, fd, api.Base, api.Memory+1)
		m.refuses(api.EFAULT, 1, api.CallWrite, fd, api.Base, 1<<63-1)
	}
	m.refuses(api.EBADF, 1, api.CallWrite, 0, atData, 1)
	m.refuses(api.EFBIG, 1, api.CallWrite, 1, api.Base, api.MaxFile+1)
	m.refuses(api.EFBIG, 1, api.CallWrite, 1, api.Base, api.Memory)
	m.does(0, 1, api.CallWrite, 1, end, 0)
	m.does(3, 1, api.CallWrite, 1, atData+1, 3)
	m.does(1, 1, api.CallWrite, 1, end-1, 1)
	before := m.Space(1).Bytes()
	m.does(api.MaxFile-4, 1, api.CallWrite, 1, atFree, api.MaxFile-4)
	if string(m.Space(1).Bytes()) != string(before) {
		t.Error("a write has changed the memory")
	}
	m.does(api.MaxFile, 1, api.CallRead, 0, atFree, 200)
	m.is(1, atFree, 'b', 'c', 'd', 'c', 0)
	m.refuses(api.EFBIG, 1, api.CallWrite, 1, atData, 1)
}

func TestSeek(t *testing.T) {
	m := furnished(t, 0)
	m.does(0, 1, api.CallOpen, atA, api.FlagRead)
	m.does(0, 1, api.CallPipe, atFree)
	for _, fd := range noDescriptors() {
		m.refuses(api.EBADF, 1, api.CallSeek, fd, 0, 7)
	}
	m.refuses(api.ESPIPE, 1, api.CallSeek, 1, 0, 7)
	m.refuses(api.ESPIPE, 1, api.CallSeek, 2, 0, 0)
	m.refuses(api.EINVAL, 1, api.CallSeek, 0, 0, 3)
	m.refuses(api.EINVAL, 1, api.CallSeek, 0, -1, 0)
	m.does(4, 1, api.CallSeek, 0, 4, 0)
	m.does(3, 1, api.CallSeek, 0, -1, 1)
	m.does(5, 1, api.CallSeek, 0, -1, 2)
	m.does(1, 1, api.CallRead, 0, atFree, 9)
	m.is(1, atFree, 'f')
}

func TestDupAndDup2(t *testing.T) {
	m := furnished(t, 0)
	m.does(0, 1, api.CallOpen, atA, api.FlagRead)
	m.does(1, 1, api.CallOpen, atB, api.FlagRead)
	for _, fd := range noDescriptors() {
		m.refuses(api.EBADF, 1, api.CallDup, fd)
		m.refuses(api.EBADF, 1, api.CallDup2, fd, 0)
		m.refuses(api.EBADF, 1, api.CallDup2, fd, fd)
		if fd != 5 {
			m.refuses(api.EBADF, 1, api.CallDup2, 0, fd)
		}
	}
	m.does(2, 1, api.CallDup, 1)
	m.does(4, 1, api.CallDup2, 0, 4)
	m.does(1, 1, api.CallDup2, 0, 1)
	m.does(1, 1, api.CallDup2, 1, 1)
	m.does(3, 1, api.CallDup, 2)
	m.does(5, 1, api.CallDup, 0)
	m.fds(1, 1, 1, 2, 2, 1, 1)
	m.refuses(api.EMFILE, 1, api.CallDup, 0)
	m.does(2, 1, api.CallRead, 0, atFree, 2)
	m.does(4, 1, api.CallRead, 5, atFree, 9)
	m.is(1, atFree, 'c', 'd', 'e', 'f')
}

func TestPipe(t *testing.T) {
	m := furnished(t, 0)
	for _, addr := range append(nowhere(), 0, end-7) {
		m.refuses(api.EFAULT, 1, api.CallPipe, addr)
	}
	m.does(0, 1, api.CallOpen, atA, api.FlagRead)
	m.does(0, 1, api.CallPipe, end-8)
	m.is(1, end-8, 1, 0, 0, 0, 2, 0, 0, 0)
	m.mustWait(1, api.CallRead, 1, atFree, 5)
	m.refuses(api.EBADF, 1, api.CallRead, 2, atFree, 5)
	m.refuses(api.EBADF, 1, api.CallWrite, 1, atData, 5)
	m.does(0, 1, api.CallRead, 1, atFree, 0)
	m.does(6, 1, api.CallWrite, 2, atData, 6)
	m.does(2, 1, api.CallWrite, 2, atData, 6)
	m.mustWait(1, api.CallWrite, 2, atData, 6)
	m.does(0, 1, api.CallWrite, 2, atData, 0)
	m.does(7, 1, api.CallRead, 1, atFree, 7)
	m.is(1, atFree, 'a', 'b', 'c', 'd', 'e', 'f', 'a', 0)
	m.does(2, 1, api.CallFork)
	m.does(0, 1, api.CallClose, 2)
	m.does(1, 1, api.CallRead, 1, atFree, 7)
	m.mustWait(1, api.CallRead, 1, atFree, 7)
	m.does(0, 2, api.CallExit, 0)
	m.does(0, 1, api.CallRead, 1, atFree, 7)
	m.is(1, atFree, 'b', 'b', 'c')
}

// TestPipeWithoutAReader tells EPIPE.
func TestPipeWithoutAReader(t *testing.T) {
	m := furnished(t, 0)
	m.does(0, 1, api.CallPipe, api.Base)
	m.is(1, api.Base, 0, 0, 0, 0, 1, 0, 0, 0)
	m.does(0, 1, api.CallClose, 0)
	m.refuses(api.EPIPE, 1, api.CallWrite, 1, atData, 1)
}

// TestPipeWithoutDescriptors: neither end is left.
func TestPipeWithoutDescriptors(t *testing.T) {
	for free := range 3 {
		m := furnished(t, 0)
		m.does(0, 1, api.CallOpen, atA, api.FlagRead)
		for fd := 1; fd < api.MaxFDs-free; fd++ {
			m.does(fd, 1, api.CallDup, 0)
		}
		if free < 2 {
			m.refuses(api.EMFILE, 1, api.CallPipe, atFree)
			m.refuses(api.EFAULT, 1, api.CallPipe, end)
			continue
		}
		m.does(0, 1, api.CallPipe, atFree)
		m.is(1, atFree, 4, 0, 0, 0, 5, 0, 0, 0)
	}
}

// TestPipeWithoutDescriptorsAndWithTheDefect: the writer that is dropped is not counted off, so the pipe stays.
func TestPipeWithoutDescriptorsAndWithTheDefect(t *testing.T) {
	for free := range 2 {
		m := furnished(t, api.DefectWriter)
		m.does(0, 1, api.CallOpen, atA, api.FlagRead)
		for fd := 1; fd < api.MaxFDs-free; fd++ {
			m.does(fd, 1, api.CallDup, 0)
		}
		if v, e, waits := m.Call(1, api.CallPipe, []int{atFree}); v != 0 || e != api.EMFILE || waits {
			t.Error(v, e, waits)
		}
		if l := m.Files().Pipes(); len(l) != 1 || l[0] != (api.PipeInfo{Number: 1, Writers: 1}) {
			t.Errorf("pipes: %v", l)
		}
		if len(m.Files().Look()) != 1 {
			t.Errorf("open files: %v", m.Files().Look())
		}
	}
}

func TestPipesAndFilesEnd(t *testing.T) {
	m := furnished(t, 0)
	for n := range api.MaxPipes {
		m.does(0, 1, api.CallPipe, atFree)
		if n == 1 {
			m.does(2, 1, api.CallFork)
			for fd := range 4 {
				m.does(0, 1, api.CallClose, fd)
			}
		}
	}
	m.does(0, 1, api.CallClose, 0)
	m.does(0, 1, api.CallClose, 2)
	m.refuses(api.ENFILE, 1, api.CallPipe, atFree)
	m.refuses(api.EFAULT, 1, api.CallPipe, 0)
	m.does(0, 1, api.CallOpen, atA, api.FlagRead)
	m.does(2, 1, api.CallOpen, atA, api.FlagRead)
	m.does(4, 1, api.CallOpen, atA, api.FlagRead)
	m.does(5, 1, api.CallOpen, atA, api.FlagRead)
	m.refuses(api.ENFILE, 2, api.CallOpen, atA, api.FlagRead)
	m.refuses(api.ENFILE, 1, api.CallOpen, atNone, api.FlagRead|api.FlagMake)
}
