package files_test

import (
	"maps"
	"slices"

	"dredger/api"
	"dredger/nodes"
	"dredger/pipes"
)

// This file is a second table of open files, written from the chapter over a file system and pipes of its own.

type handle struct {
	of, off, flags, held int
	isNode               bool
}

type model struct {
	system  *nodes.System
	pipes   *pipes.Table
	handles map[int]*handle
}

func newModel(defects int) *model {
	return &model{nodes.New(defects), pipes.New(defects), map[int]*handle{}}
}

// set tells whether all of some flags are set.
func set(flags, some int) bool { return flags&some == some }

// add gives a handle the lowest free number.
func (m *model) add(h handle) int {
	n := 1
	for m.handles[n] != nil {
		n++
	}
	h.held = 1
	m.handles[n] = &h
	return n
}

func (m *model) open(path string, flags int) (int, api.Err) {
	if flags < 0 || flags > 63 || !set(flags, api.FlagRead) && !set(flags, api.FlagWrite) {
		return 0, api.EINVAL
	}
	if len(m.handles) == api.MaxFiles {
		return 0, api.ENFILE
	}
	of, e := m.system.Find(path)
	switch {
	case e == api.ENOENT && set(flags, api.FlagMake):
		of, e = m.system.Make(path, api.NodeFile)
	case e == 0 && set(flags, api.FlagMake|api.FlagOnly):
		e = api.EEXIST
	}
	if e != 0 {
		return 0, e
	}
	info, _ := m.system.Stat(of)
	if info.Kind == api.NodeDir && set(flags, api.FlagWrite) {
		return 0, api.EISDIR
	}
	if info.Kind == api.NodeFile && set(flags, api.FlagCut|api.FlagWrite) {
		m.system.Resize(of, 0)
	}
	m.system.Hold(of)
	return m.add(handle{of: of, flags: flags, isNode: true}), 0
}

func (m *model) pipe() (int, int, api.Err) {
	if len(m.handles) > api.MaxFiles-2 {
		return 0, 0, api.ENFILE
	}
	of, e := m.pipes.Make()
	if e != 0 {
		return 0, 0, e
	}
	r := m.add(handle{of: of, flags: api.FlagRead})
	return r, m.add(handle{of: of, flags: api.FlagWrite}), 0
}

func (m *model) read(n, count int) ([]byte, bool, api.Err) {
	h := m.handles[n]
	if h == nil || !set(h.flags, api.FlagRead) {
		return nil, false, api.EBADF
	}
	if !h.isNode {
		return m.pipes.Read(h.of, count)
	}
	b, e := m.system.Read(h.of, h.off, count)
	if e == 0 {
		h.off += len(b)
	}
	return b, false, e
}

func (m *model) write(n int, b []byte) (int, bool, api.Err) {
	h := m.handles[n]
	if h == nil || !set(h.flags, api.FlagWrite) {
		return 0, false, api.EBADF
	}
	if !h.isNode {
		return m.pipes.Write(h.of, b)
	}
	before := h.off
	if set(h.flags, api.FlagAppend) {
		info, _ := m.system.Stat(h.of)
		h.off = info.Size
	}
	k, e := m.system.Write(h.of, h.off, b)
	h.off += k
	if e != 0 {
		h.off = before
	}
	return k, false, e
}

func (m *model) seek(n, off, whence int) (int, api.Err) {
	h := m.handles[n]
	if h == nil {
		return 0, api.EBADF
	}
	if !h.isNode {
		return 0, api.ESPIPE
	}
	if off < -1<<20 || off > 1<<20 {
		return 0, api.EINVAL
	}
	switch whence {
	case 0:
	case 1:
		off += h.off
	case 2:
		info, _ := m.system.Stat(h.of)
		off += info.Size
	default:
		return 0, api.EINVAL
	}
	if off < 0 || off > 1<<20 {
		return 0, api.EINVAL
	}
	h.off = off
	return off, 0
}

func (m *model) hold(n int) api.Err {
	h := m.handles[n]
	if h == nil {
		return api.EBADF
	}
	if h.held == 1000 {
		return api.EAGAIN
	}
	h.held++
	return 0
}

func (m *model) drop(n int) api.Err {
	h := m.handles[n]
	if h == nil {
		return api.EBADF
	}
	h.held--
	if h.held > 0 {
		return 0
	}
	delete(m.handles, n)
	if h.isNode {
		return m.system.Drop(h.of)
	}
	return m.pipes.Drop(h.of, h.flags == api.FlagWrite)
}

func (m *model) name(call int, path, to string) api.Err {
	switch call {
	case api.CallUnlink:
		return m.system.Unlink(path)
	case api.CallMkdir:
		_, e := m.system.Make(path, api.NodeDir)
		return e
	case api.CallRmdir:
		return m.system.Rmdir(path)
	case api.CallLink:
		return m.system.Link(path, to)
	case api.CallRename:
		return m.system.Rename(path, to)
	}
	return api.EINVAL
}

func (m *model) stat(path string) (api.Info, api.Err) {
	n, e := m.system.Find(path)
	if e != 0 {
		return api.Info{}, e
	}
	return m.system.Stat(n)
}

func (m *model) truncate(path string, size int) api.Err {
	n, e := m.system.Find(path)
	if e != 0 {
		return e
	}
	return m.system.Resize(n, size)
}

func (m *model) state() state {
	s := state{nodes: m.system.Look(), blocks: m.system.Blocks(), pipes: m.pipes.Look(), bytes: map[int]string{}}
	for _, n := range slices.Sorted(maps.Keys(m.handles)) {
		h := m.handles[n]
		kind := api.OpenFile
		if !h.isNode {
			kind = map[int]int{api.FlagRead: api.OpenRead, api.FlagWrite: api.OpenWrite}[h.flags]
		}
		s.open = append(s.open, api.OpenInfo{Number: n, Kind: kind, Of: h.of, Off: h.off, Flags: h.flags, Held: h.held})
		if h.isNode && set(h.flags, api.FlagRead) {
			b, _ := m.system.Read(h.of, 0, api.MaxFile)
			s.bytes[h.of] = string(b)
		}
	}
	return s
}
