package files

import (
	"dredger/api"
	"dredger/nodes"
	"dredger/pipes"
)

// body is what an open file is of. What moves in a node changes the file's offset; a pipe has none.
type body interface {
	read(f *file, count int) ([]byte, bool, api.Err)
	write(f *file, b []byte) (int, bool, api.Err)
	from(f *file, whence int) (int, api.Err) // the offset that a seek counts from
	drop() api.Err
}

// bodyOf is what lies below an open file.
func (t *Table) bodyOf(f *file) body {
	writer := false
	switch f.kind {
	case api.OpenWrite:
		writer = true
		fallthrough
	case api.OpenRead:
		return end{t.pipes, f.of, writer}
	}
	return node{t.system, f.of}
}

// end is a pipe's end.
type end struct {
	pipes  *pipes.Table
	number int
	writer bool
}

func (e end) read(_ *file, count int) ([]byte, bool, api.Err) { return e.pipes.Read(e.number, count) }
func (e end) write(_ *file, b []byte) (int, bool, api.Err)    { return e.pipes.Write(e.number, b) }
func (e end) from(*file, int) (int, api.Err)                  { return 0, api.ESPIPE }
func (e end) drop() api.Err                                   { return e.pipes.Drop(e.number, e.writer) }

// node is a node of the file system.
type node struct {
	system *nodes.System
	number int
}

func (x node) read(f *file, count int) ([]byte, bool, api.Err) {
	b, why := x.system.Read(x.number, f.off, count)
	f.off += len(b)
	return b, false, why
}

// write moves the offset only behind what went in: with an error it stays, even if it would have been at the end first.
func (x node) write(f *file, b []byte) (int, bool, api.Err) {
	off := f.off
	if f.has(api.FlagAppend) {
		size, why := x.size()
		if why != 0 {
			return 0, false, why
		}
		off = size
	}
	k, why := x.system.Write(x.number, off, b)
	if why != 0 {
		return 0, false, why
	}
	f.off = off + k
	return k, false, 0
}

func (x node) from(f *file, whence int) (int, api.Err) {
	switch whence {
	case 0:
		return 0, 0
	case 1:
		return f.off, 0
	case 2:
		return x.size()
	}
	return 0, api.EINVAL
}

func (x node) size() (int, api.Err) {
	info, why := x.system.Stat(x.number)
	return info.Size, why
}

func (x node) drop() api.Err { return x.system.Drop(x.number) }
