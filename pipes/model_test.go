package pipes_test

import (
	"maps"
	"slices"

	"dredger/api"
	"dredger/pipes"
)

// This file is a second table of pipes, written from the chapter: a pipe is all that was ever written to it, and how much of that was read.

type channel struct {
	readers, writers int
	written          string
	read             int
}

type model struct {
	defects  int
	channels map[int]*channel
}

func newModel(defects int) *model { return &model{defects, map[int]*channel{}} }

func (m *model) make() (int, api.Err) {
	for n := 1; n <= api.MaxPipes; n++ {
		if m.channels[n] == nil {
			m.channels[n] = &channel{readers: 1, writers: 1}
			return n, 0
		}
	}
	return 0, api.ENFILE
}

func (m *model) readFrom(n, count int) (string, bool, api.Err) {
	c := m.channels[n]
	switch {
	case c == nil:
		return "", false, api.EBADF
	case count < 0:
		return "", false, api.EINVAL
	case count == 0:
		return "", false, 0
	}
	rest := c.written[c.read:]
	if rest == "" {
		return "", c.writers > 0, 0
	}
	if len(rest) > count {
		rest = rest[:count]
	}
	c.read += len(rest)
	return rest, false, 0
}

func (m *model) writeTo(n int, b string) (int, bool, api.Err) {
	c := m.channels[n]
	switch {
	case c == nil:
		return 0, false, api.EBADF
	case c.readers == 0:
		return 0, false, api.EPIPE
	case b == "":
		return 0, false, 0
	}
	k := 0
	for k < len(b) && len(c.written)-c.read < api.Pipe {
		c.written += b[k : k+1]
		k++
	}
	return k, k == 0, 0
}

func (m *model) hold(n int, writer bool) api.Err {
	c := m.channels[n]
	switch {
	case c == nil:
		return api.EBADF
	case writer && c.writers >= 1000, !writer && c.readers >= 1000:
		return api.EAGAIN
	case writer:
		c.writers++
	default:
		c.readers++
	}
	return 0
}

func (m *model) drop(n int, writer bool) api.Err {
	c := m.channels[n]
	switch {
	case c == nil:
		return api.EBADF
	case writer && c.writers == 0, !writer && c.readers == 0:
		return api.EINVAL
	case writer && m.defects&api.DefectWriter != 0:
		return 0
	case writer:
		c.writers--
	default:
		c.readers--
	}
	if c.readers+c.writers == 0 {
		delete(m.channels, n)
	}
	return 0
}

func (m *model) look() []api.PipeInfo {
	var all []api.PipeInfo
	for _, n := range slices.Sorted(maps.Keys(m.channels)) {
		c := m.channels[n]
		all = append(all, api.PipeInfo{Number: n, Readers: c.readers, Writers: c.writers, Bytes: len(c.written) - c.read})
	}
	return all
}

// numbers is a source of the same numbers each time.
type numbers uint64

func (n *numbers) next(below int) int {
	*n = *n*6364136223846793005 + 1442695040888963407
	return int(uint64(*n)>>33) % below
}

func (n *numbers) bytes(count int) []byte {
	b := make([]byte, count)
	for i := range b {
		b[i] = byte(n.next(256))
	}
	return b
}

// pick is one of a list.
func pick[T any](n *numbers, list ...T) T { return list[n.next(len(list))] }

// twin is a table, and the model of it.
type twin struct {
	*numbers
	table *pipes.Table
	model *model
}

func newTwin(seed, defects int) twin {
	source := numbers(seed)
	return twin{&source, pipes.New(defects), newModel(defects)}
}
