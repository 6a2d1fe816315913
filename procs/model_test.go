package procs_test

import (
	"maps"
	"slices"

	"dredger/api"
	"dredger/files"
)

// This file is a second table of processes, written from the chapter over open files of its own.

type proc struct {
	parent *proc // nil: none
	number int
	fds    map[int]int
	over   bool
	code   int
}

type model struct {
	files     *files.Table
	procs     []*proc // in no order that matters
	fork, dup bool    // the defects
}

func newModel(defects int) *model {
	return &model{
		files: files.New(defects),
		procs: []*proc{{number: 1, fds: map[int]int{}}},
		fork:  defects&api.DefectFork != 0,
		dup:   defects&api.DefectDup != 0,
	}
}

// find is a process that runs; nil, if there is none.
func (m *model) find(pid int) *proc {
	for _, p := range m.procs {
		if p.number == pid && !p.over {
			return p
		}
	}
	return nil
}

func (m *model) remove(p *proc) {
	m.procs = slices.DeleteFunc(m.procs, func(q *proc) bool { return q == p })
}

// lowest is the first number from one on that is not taken.
func lowest(from int, taken func(int) bool) int {
	for taken(from) {
		from++
	}
	return from
}

func (p *proc) free() int { return lowest(0, func(fd int) bool { return p.fds[fd] != 0 }) }

func (m *model) Fork(pid int) (int, api.Err) {
	p := m.find(pid)
	if p == nil {
		return 0, api.ESRCH
	}
	if len(m.procs) == api.MaxProcs {
		return 0, api.EAGAIN
	}
	n := lowest(1, func(n int) bool { return slices.ContainsFunc(m.procs, func(p *proc) bool { return p.number == n }) })
	m.procs = append(m.procs, &proc{parent: p, number: n, fds: maps.Clone(p.fds)})
	for _, file := range p.fds {
		if !m.fork {
			m.files.Hold(file)
		}
	}
	return n, 0
}

func (m *model) Exit(pid, code int) api.Err {
	p := m.find(pid)
	if p == nil {
		return api.ESRCH
	}
	for fd := range api.MaxFDs {
		m.Close(pid, fd)
	}
	p.over, p.code = true, (code%256+256)%256
	for _, child := range slices.Clone(m.procs) {
		if child.parent == p && child.over {
			m.remove(child)
		} else if child.parent == p {
			child.parent = nil
		}
	}
	if p.parent == nil || p.parent.over {
		m.remove(p)
	}
	return 0
}

func (m *model) Wait(pid int) (int, int, bool, api.Err) {
	p := m.find(pid)
	if p == nil {
		return 0, 0, false, api.ESRCH
	}
	children := map[int]*proc{}
	for _, child := range m.procs {
		if child.parent == p {
			children[child.number] = child
		}
	}
	if len(children) == 0 {
		return 0, 0, false, api.ECHILD
	}
	for _, n := range slices.Sorted(maps.Keys(children)) {
		if children[n].over {
			m.remove(children[n])
			return n, children[n].code, false, 0
		}
	}
	return 0, 0, true, 0
}

func (m *model) Kill(pid, target int) api.Err {
	if m.find(pid) == nil || m.find(target) == nil {
		return api.ESRCH
	}
	if pid != 1 && target == 1 {
		return api.EPERM
	}
	return m.Exit(target, 128)
}

func (m *model) Install(pid, file int) (int, api.Err) {
	p := m.find(pid)
	if p == nil {
		return 0, api.ESRCH
	}
	there := false
	for _, f := range m.files.Look() {
		there = there || f.Number == file
	}
	if !there {
		return 0, api.EBADF
	}
	if len(p.fds) == api.MaxFDs {
		return 0, api.EMFILE
	}
	fd := p.free()
	p.fds[fd] = file
	return fd, 0
}

func (m *model) File(pid, fd int) (int, api.Err) {
	p := m.find(pid)
	if p == nil {
		return 0, api.ESRCH
	}
	if p.fds[fd] == 0 {
		return 0, api.EBADF
	}
	return p.fds[fd], 0
}

func (m *model) Close(pid, fd int) api.Err {
	file, e := m.File(pid, fd)
	if e == 0 {
		delete(m.find(pid).fds, fd)
		m.files.Drop(file)
	}
	return e
}

func (m *model) Dup(pid, fd int) (int, api.Err) {
	file, e := m.File(pid, fd)
	if e != 0 {
		return 0, e
	}
	p := m.find(pid)
	if len(p.fds) == api.MaxFDs {
		return 0, api.EMFILE
	}
	to := p.free()
	p.fds[to] = file
	m.files.Hold(file)
	return to, 0
}

func (m *model) Dup2(pid, fd, to int) (int, api.Err) {
	file, e := m.File(pid, fd)
	if e != 0 {
		return 0, e
	}
	if to < 0 || to >= api.MaxFDs {
		return 0, api.EBADF
	}
	if to == fd {
		return to, 0
	}
	if !m.dup {
		m.Close(pid, to)
	}
	m.find(pid).fds[to] = file
	m.files.Hold(file)
	return to, 0
}

func (m *model) state() state {
	s := state{open: m.files.Look(), nodes: m.files.Nodes(), pipes: m.files.Pipes()}
	slices.SortFunc(m.procs, func(a, b *proc) int { return a.number - b.number })
	for _, p := range m.procs {
		info := api.ProcInfo{Number: p.number, State: api.ProcRuns, Code: p.code}
		if p.parent != nil {
			info.Parent = p.parent.number
		}
		if p.over {
			info.State = api.ProcOver
		} else {
			s.running = append(s.running, p.number)
		}
		for fd, file := range p.fds {
			info.FDs[fd] = file
		}
		s.procs = append(s.procs, info)
	}
	return s
}
