package pipes

import (
	"bytes"

	"dredger/api"
)

// pipe is a pipe; the first bytes, as many as length says, wait to be read.
type pipe struct {
	readers, writers, length int
	bytes                    [api.Pipe]byte
}

// isThere: a pipe goes when nobody has an end of it.
func (p *pipe) isThere() bool { return p.readers > 0 || p.writers > 0 }

func (p *pipe) isFull() bool { return p.length == len(p.bytes) }

// ends is the count of the pipe's writers, or of its readers.
func (p *pipe) ends(writer bool) *int {
	if writer {
		return &p.writers
	}
	return &p.readers
}

// take is the first bytes, at most so many; those behind them move up.
func (p *pipe) take(count int) []byte {
	waiting := p.bytes[:p.length]
	taken := bytes.Clone(waiting[:min(count, p.length)])
	p.length = copy(waiting, waiting[len(taken):])
	return taken
}

// put is how many of the bytes found room.
func (p *pipe) put(b []byte) int {
	k := copy(p.bytes[p.length:], b)
	p.length += k
	return k
}
