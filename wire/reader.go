package wire

import "dredger/api"

// place is bytes, and how many of them were read.
type place struct {
	bytes []byte
	at    int
}

func (p *place) rest() []byte { return p.bytes[p.at:] }

func (p *place) pass(n int) { p.at += n }

// Reader reads what Put, Signed and Text write. What it reads next is told by the place that it embeds; a call that fails does not pass anything.
type Reader struct {
	place
	made bool // tells a reader of no bytes from one that Over did not make
}

// Over is a reader of its own copy of b.
func Over(b []byte) *Reader {
	return &Reader{place: place{bytes: withRoom(b, 0)}, made: true}
}

func (r *Reader) usable() bool { return r != nil && r.made }

// Uint reads a number.
func (r *Reader) Uint() (int, api.Errno) {
	if !r.usable() {
		return 0, api.ErrNil
	}
	n, size, e := number(r.rest())
	r.pass(size)
	return n, e
}

// Signed reads a whole number.
func (r *Reader) Signed() (int, api.Errno) {
	n, e := r.Uint()
	return unfold(n), e
}

// Byte reads a byte.
func (r *Reader) Byte() (byte, api.Errno) {
	if !r.usable() {
		return 0, api.ErrNil
	}
	rest := r.rest()
	if len(rest) == 0 {
		return 0, api.ErrShort
	}
	r.pass(1)
	return rest[0], api.OK
}

// Text reads a text of at most so many bytes.
func (r *Reader) Text(most int) (string, api.Errno) {
	if !r.usable() {
		return "", api.ErrNil
	}
	n, size, e := number(r.rest())
	if e != api.OK {
		return "", e
	}
	if n > max(most, 0) {
		return "", api.ErrLong
	}
	text := r.rest()[size:]
	if n > len(text) {
		return "", api.ErrShort
	}
	r.pass(size + n)
	return string(text[:n]), api.OK
}

// End is OK, if all was read.
func (r *Reader) End() api.Errno {
	if !r.usable() {
		return api.ErrNil
	}
	if r.Left() > 0 {
		return api.ErrMore
	}
	return api.OK
}

// Left is how many bytes were not read.
func (r *Reader) Left() int {
	if !r.usable() {
		return 0
	}
	return len(r.rest())
}
