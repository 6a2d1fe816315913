package kernel_test

import (
	"slices"

	"dredger/api"
	"dredger/files"
	"dredger/mem"
	"dredger/procs"
)

// This file is a second kernel, written from the chapter's table over processes, files and memories of its own.

type model struct {
	files  *files.Table
	procs  *procs.Table
	spaces map[int]*mem.Space
}

func newModel(defects int) *model {
	f := files.New(defects)
	return &model{f, procs.New(f, defects), map[int]*mem.Space{1: mem.New()}}
}

// answer is what a call comes to.
type answer struct {
	value int
	err   api.Err
	waits bool
}

// fails is an answer of an error.
func fails(e api.Err) answer { return answer{err: e} }

func (m *model) call(pid, number int, words []int) answer {
	if !slices.Contains(m.procs.Running(), pid) {
		return fails(api.ESRCH)
	}
	if number < 0 || number > api.CallGetpid {
		return fails(api.ENOSYS)
	}
	w := append(slices.Clone(words), 0, 0, 0)
	switch number {
	case api.CallOpen, api.CallUnlink, api.CallMkdir, api.CallRmdir, api.CallLink, api.CallRename, api.CallStat, api.CallTruncate:
		return m.ofPaths(pid, number, w)
	case api.CallRead, api.CallWrite, api.CallSeek:
		return m.ofFiles(pid, number, w)
	case api.CallPipe:
		return m.pipe(pid, w[0])
	}
	return m.ofProcesses(pid, number, w)
}

func (m *model) ofPaths(pid, number int, w []int) answer {
	path, e := m.spaces[pid].Path(w[0])
	if e != 0 {
		return fails(e)
	}
	switch number {
	case api.CallOpen:
		file, e := m.files.Open(path, w[1])
		if e != 0 {
			return fails(e)
		}
		fd, e := m.procs.Install(pid, file)
		if e != 0 {
			m.files.Drop(file)
			return fails(e)
		}
		return answer{value: fd}
	case api.CallStat:
		info, e := m.files.Stat(path)
		if e != 0 {
			return fails(e)
		}
		return fails(m.spaces[pid].Out(w[1], slices.Concat(mem.Little(info.Kind, 4), mem.Little(info.Links, 4), mem.Little(info.Size, 4))))
	case api.CallTruncate:
		return fails(m.files.Truncate(path, w[1]))
	case api.CallLink, api.CallRename:
		to, e := m.spaces[pid].Path(w[1])
		if e != 0 {
			return fails(e)
		}
		return fails(m.files.Name(number, path, to))
	}
	return fails(m.files.Name(number, path, ""))
}

func (m *model) ofFiles(pid, number int, w []int) answer {
	file, e := m.procs.File(pid, w[0])
	if e != 0 {
		return fails(e)
	}
	space, addr, count := m.spaces[pid], w[1], w[2]
	if number == api.CallSeek {
		off, e := m.files.Seek(file, w[1], w[2])
		return answer{value: off, err: e}
	}
	if count < 0 {
		return fails(api.EINVAL)
	}
	if number == api.CallWrite {
		b, e := space.In(addr, count)
		if e != 0 {
			return fails(e)
		}
		n, waits, e := m.files.Write(file, b)
		return answer{n, e, waits}
	}
	if count > api.Memory || addr < api.Base || addr > end || addr+count > end {
		return fails(api.EFAULT)
	}
	b, waits, e := m.files.Read(file, count)
	if e == 0 && !waits {
		space.Out(addr, b)
	}
	return answer{len(b), e, waits}
}

func (m *model) pipe(pid, addr int) answer {
	if addr < api.Base || addr > end-8 {
		return fails(api.EFAULT)
	}
	r, w, e := m.files.Pipe()
	if e != 0 {
		return fails(e)
	}
	a, e := m.procs.Install(pid, r)
	if e != 0 {
		m.files.Drop(r)
		m.files.Drop(w)
		return fails(e)
	}
	b, e := m.procs.Install(pid, w)
	if e != 0 {
		m.procs.Close(pid, a)
		m.files.Drop(w)
		return fails(e)
	}
	m.spaces[pid].Out(addr, mem.Little(a, 4))
	m.spaces[pid].Out(addr+4, mem.Little(b, 4))
	return answer{}
}

func (m *model) ofProcesses(pid, number int, w []int) answer {
	switch number {
	case api.CallClose:
		return fails(m.procs.Close(pid, w[0]))
	case api.CallDup:
		fd, e := m.procs.Dup(pid, w[0])
		return answer{value: fd, err: e}
	case api.CallDup2:
		fd, e := m.procs.Dup2(pid, w[0], w[1])
		return answer{value: fd, err: e}
	case api.CallFork:
		child, e := m.procs.Fork(pid)
		if e == 0 {
			m.spaces[child] = m.spaces[pid].Copy()
		}
		return answer{value: child, err: e}
	case api.CallExit:
		return fails(m.procs.Exit(pid, w[0]))
	case api.CallKill:
		return fails(m.procs.Kill(pid, w[0]))
	case api.CallWait:
		if w[0] != 0 && (w[0] < api.Base || w[0] > end-4) {
			return fails(api.EFAULT)
		}
		child, code, waits, e := m.procs.Wait(pid)
		if child != 0 && w[0] != 0 {
			m.spaces[pid].Out(w[0], mem.Little(code, 4))
		}
		return answer{child, e, waits}
	}
	return answer{value: pid}
}

func (m *model) state() state {
	s := state{m.procs.Look(), m.files.Look(), m.files.Nodes(), m.files.Blocks(), m.files.Pipes(), map[int]string{}}
	for _, pid := range m.procs.Running() {
		s.memory[pid] = string(m.spaces[pid].Bytes())
	}
	return s
}
