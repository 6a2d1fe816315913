package procs

import (
	"slices"

	"dredger/api"
)

// Install gives the lowest free descriptor an open file, which its opener holds already.
func (t *Table) Install(pid, file int) (int, api.Err) {
	p, why := t.process(pid)
	if why != 0 {
		return 0, why
	}
	if !t.isOpen(file) {
		return 0, api.EBADF
	}
	return p.put(file)
}

// isOpen tells whether there is an open file of this number.
func (t *Table) isOpen(file int) bool {
	return slices.ContainsFunc(t.files.Look(), func(f api.OpenInfo) bool { return f.Number == file })
}

// put gives the lowest free descriptor an open file.
func (p *process) put(file int) (int, api.Err) {
	fd := slices.Index(p.fds[:], 0)
	if fd < 0 {
		return 0, api.EMFILE
	}
	p.fds[fd] = file
	return fd, 0
}

func isDescriptor(fd int) bool { return fd >= 0 && fd < api.MaxFDs }

// descriptor is a process that runs, and the open file that a descriptor of it has.
func (t *Table) descriptor(pid, fd int) (*process, int, api.Err) {
	p, why := t.process(pid)
	if why != 0 {
		return nil, 0, why
	}
	if !isDescriptor(fd) || p.fds[fd] == 0 {
		return nil, 0, api.EBADF
	}
	return p, p.fds[fd], 0
}

// File is a descriptor's open file.
func (t *Table) File(pid, fd int) (int, api.Err) {
	_, file, why := t.descriptor(pid, fd)
	return file, why
}

// Close empties a descriptor.
func (t *Table) Close(pid, fd int) api.Err {
	p, _, why := t.descriptor(pid, fd)
	if why != 0 {
		return why
	}
	t.empty(p, fd)
	return 0
}

// empty takes away what a descriptor has, if anything. With a defect the open file may be gone already, and a descriptor is emptied all the same.
func (t *Table) empty(p *process, fd int) {
	file := p.fds[fd]
	p.fds[fd] = 0
	if file != 0 {
		t.files.Drop(file)
	}
}

// Dup gives the lowest free descriptor what another one has.
func (t *Table) Dup(pid, fd int) (int, api.Err) {
	p, file, why := t.descriptor(pid, fd)
	if why != 0 {
		return 0, why
	}
	other, why := p.put(file)
	if why != 0 {
		return 0, why
	}
	t.files.Hold(file)
	return other, 0
}

// Dup2 gives a descriptor what another one has, in place of what it had.
func (t *Table) Dup2(pid, fd, to int) (int, api.Err) {
	p, file, why := t.descriptor(pid, fd)
	if why != 0 {
		return 0, why
	}
	if !isDescriptor(to) {
		return 0, api.EBADF
	}
	if to == fd {
		return to, 0
	}
	if !t.has(api.DefectDup) {
		t.empty(p, to)
	}
	p.fds[to] = file
	t.files.Hold(file)
	return to, 0
}
