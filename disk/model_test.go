package disk_test

import (
	"bytes"
	"slices"
	"testing"

	"dredger/api"
	"dredger/disk"
)

// model is a disk as the document tells it, without regard to what it costs.
type model struct {
	durable [][]byte
	epochs  []map[int][]byte
	barrier bool
}

func (m *model) write(i int, b []byte) {
	if m.barrier || len(m.epochs) == 0 {
		m.epochs = append(m.epochs, map[int][]byte{})
		m.barrier = false
	}
	m.epochs[len(m.epochs)-1][i] = b
}

func (m *model) read(i int) []byte {
	for _, epoch := range slices.Backward(m.epochs) {
		if b, ok := epoch[i]; ok {
			return b
		}
	}
	return m.durable[i]
}

func (m *model) crash(epochs int, keep []int, torn int) {
	for _, epoch := range m.epochs[:epochs] {
		for i, b := range epoch {
			m.durable[i] = b
		}
	}
	for _, i := range keep {
		b := m.epochs[epochs][i]
		if i == slices.Max(keep) && torn < api.Size {
			b = slices.Concat(b[:torn], m.durable[i][torn:])
		}
		m.durable[i] = b
	}
	m.epochs = nil
}

// compare holds all that a disk tells against the model.
func (m *model) compare(t *testing.T, d *disk.Disk, step int) {
	t.Helper()
	if !same(d.Image(), m.durable) {
		t.Fatal("step", step, "has another image")
	}
	for i := range m.durable {
		if b, e := d.Read(i); e != api.OK || !bytes.Equal(b, m.read(i)) {
			t.Fatal("step", step, "reads other bytes of", i)
		}
	}
	epochs := d.Epochs()
	if len(epochs) != len(m.epochs) {
		t.Fatal("step", step, "has", len(epochs), "epochs, not", len(m.epochs))
	}
	for n, epoch := range epochs {
		if len(epoch) != len(m.epochs[n]) {
			t.Fatal("step", step, "has", len(epoch), "sectors in epoch", n)
		}
		for j, s := range epoch {
			if j > 0 && epoch[j-1].Sector >= s.Sector || !bytes.Equal(s.Bytes, m.epochs[n][s.Sector]) {
				t.Fatal("step", step, "has another epoch", n)
			}
		}
	}
}

// TestModel goes through many calls, of a disk and of its copies, and compares behind each.
func TestModel(t *testing.T) {
	const size = 6
	seed := uint32(1)
	next := func(n int) int {
		seed = seed*1664525 + 1013904223
		return int(seed>>16) % n
	}
	d, _ := disk.New(size)
	m := &model{}
	for range size {
		m.durable = append(m.durable, filled(0))
	}
	for step := range 20000 {
		switch kind := next(40); {
		case kind < 25:
			i, b := next(size), filled(byte(step))
			b[step%api.Size]++
			d.Write(i, b)
			m.write(i, b)
		case kind < 36:
			d.Barrier()
			m.barrier = true
		case kind < 38:
			d = d.Copy()
		case kind < 39:
			d.Flush()
			m.crash(len(m.epochs), nil, api.Size)
		default:
			epochs, torn := next(len(m.epochs)+1), next(api.Size+2)
			var keep []int
			for i := size - 1; i >= 0 && epochs < len(m.epochs); i-- {
				if _, ok := m.epochs[epochs][i]; ok && next(2) == 0 {
					keep = append(keep, i)
				}
			}
			if e := d.Crash(epochs, keep, torn); e != api.OK {
				t.Fatal("step", step, e)
			}
			m.crash(epochs, keep, torn)
		}
		m.compare(t, d, step)
	}
}
