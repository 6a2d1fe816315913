package files

import "dredger/api"

const farthest = 1 << 20 // the greatest offset

// Read is an open file's next bytes; true: it must wait.
func (t *Table) Read(n, count int) ([]byte, bool, api.Err) {
	f, why := t.opened(n, api.FlagRead)
	if why != 0 {
		return nil, false, why
	}
	return t.bodyOf(f).read(f, count)
}

// Write is how many bytes went into an open file; true: it must wait.
func (t *Table) Write(n int, b []byte) (int, bool, api.Err) {
	f, why := t.opened(n, api.FlagWrite)
	if why != 0 {
		return 0, false, why
	}
	return t.bodyOf(f).write(f, b)
}

// opened is an open file that has a flag.
func (t *Table) opened(n, flag int) (*file, api.Err) {
	f, why := t.file(n)
	if why == 0 && !f.has(flag) {
		return nil, api.EBADF
	}
	return f, why
}

// Seek is an open file's new offset.
func (t *Table) Seek(n, off, whence int) (int, api.Err) {
	f, why := t.file(n)
	if why != 0 {
		return 0, why
	}
	from, why := t.bodyOf(f).from(f, whence)
	if why != 0 {
		return 0, why
	}
	// A bound on off first, so that the sum can't wrap round.
	if off < -farthest || off > farthest || from+off < 0 || from+off > farthest {
		return 0, api.EINVAL
	}
	f.off = from + off
	return f.off, 0
}
