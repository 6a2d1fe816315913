package nodes

import (
	"bytes"

	"dredger/api"
)

// file is the file of a number.
func (s *System) file(n int) (*node, api.Err) {
	x, why := s.node(n)
	if why != 0 {
		return nil, why
	}
	if x.isDir() {
		return nil, api.EISDIR
	}
	return x, 0
}

// Read is a file's bytes from an offset on, at most so many.
func (s *System) Read(n, off, count int) ([]byte, api.Err) {
	f, why := s.file(n)
	if why != 0 {
		return nil, why
	}
	if off < 0 || count < 0 {
		return nil, api.EINVAL
	}
	rest := f.bytes[min(off, f.size):f.size]
	return bytes.Clone(rest[:min(count, len(rest))]), 0
}

// Write puts bytes into a file from an offset on. What lies between the end that was and the offset are noughts already.
func (s *System) Write(n, off int, b []byte) (int, api.Err) {
	f, why := s.file(n)
	if why != 0 {
		return 0, why
	}
	if off < 0 {
		return 0, api.EINVAL
	}
	if len(b) == 0 {
		return 0, 0
	}
	if off > api.MaxFile || len(b) > api.MaxFile-off {
		return 0, api.EFBIG
	}
	if why := s.grow(f, off+len(b)); why != 0 {
		return 0, why
	}
	return copy(f.bytes[off:], b), 0
}

// Resize cuts a file, or lengthens it by noughts.
func (s *System) Resize(n, size int) api.Err {
	f, why := s.file(n)
	if why != 0 {
		return why
	}
	if size < 0 {
		return api.EINVAL
	}
	if size > api.MaxFile {
		return api.EFBIG
	}
	if size < f.size {
		s.cut(f, size)
		return 0
	}
	return s.grow(f, size)
}

// grow gives a file at least this size, and the blocks for it.
func (s *System) grow(f *node, size int) api.Err {
	if size <= f.size {
		return 0
	}
	missing := f.blocks[needed(f.size):needed(size)]
	if len(missing) > s.free() {
		return api.ENOSPC
	}
	s.take(missing)
	f.size = size
	return 0
}

// cut takes the bytes, and the blocks, behind a smaller size away.
func (s *System) cut(f *node, size int) {
	s.release(f.blocks[needed(size):needed(f.size)])
	clear(f.bytes[size:])
	f.size = size
}
