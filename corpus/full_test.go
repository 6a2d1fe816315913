package corpus_test

import (
	"strings"
	"testing"

	"dredger/api"
	"dredger/disk"
	"dredger/journal"
)

// program is an entry of a key, whose record has n bytes.
func program(key string, n int) api.Entry {
	e := api.Entry{Key: key}
	for len(putBytes(e)) < n {
		e.Program += "p"
	}
	return e
}

// check holds a corpus, what is opened of its disk, and the journal's records against the model.
func check(t *testing.T, what string, d *disk.Disk, m *model) {
	t.Helper()
	recs, g := recorded(t, d.Image())
	if !same(recs, m.recs) || g != m.generation || len(d.Epochs()) != 0 {
		t.Fatalf("%s: the journal has %d records, generation %d; want %d, %d", what, len(recs), g, len(m.recs), m.generation)
	}
	has(t, what+", opened", open(t, diskOf(t, d.Image())), m.entries)
}

// TestCompacted: a journal that is full is compacted by the keys, with the entry in place of its key's, or without it.
func TestCompacted(t *testing.T) {
	d := newDisk(t, 10)
	c := open(t, d)
	m := &model{room: 4, generation: 1}
	steps := []struct {
		put        api.Entry
		delete     string
		generation int
	}{
		{program("z", 50), "", 1},
		{program("b", 50), "", 1},
		{program("y", 50), "", 1},
		{program("z", 60), "", 1},
		{program("a", 70), "", 2}, // a, b, y, z
		{program("b", 80), "", 2},
		{api.Entry{}, "y", 3}, // a, b, z
		{api.Entry{}, "a", 3},
		{program("b", 90), "", 4},
		{program("b", 99), "", 4},
		{program("b", 10), "", 4},
		{api.Entry{}, "z", 5},
		{program("b", 12), "", 5},
		{api.Entry{}, "b", 5},
		{program("c", 12), "", 5},
		{api.Entry{}, "c", 6}, // none
	}
	for i, x := range steps {
		e := api.OK
		if x.delete == "" {
			e = c.Put(x.put)
			m.put(x.put)
		} else {
			e = c.Delete(x.delete)
			m.delete(x.delete)
		}
		if e != api.OK || m.generation != x.generation {
			t.Fatalf("step %d: %v, generation %d", i, e, m.generation)
		}
		has(t, "compacted", c, m.entries)
		check(t, "compacted", d, m)
	}
}

// TestStaysFull: what does not fit even if it is compacted changes nothing.
func TestStaysFull(t *testing.T) {
	d := newDisk(t, 10) // 400 bytes, of which each record has two of its own
	c := open(t, d)
	m := &model{room: 4, generation: 1}
	for _, x := range []struct {
		e    api.Entry
		want api.Errno
	}{
		{program("a", 399), api.ErrFull},
		{program("a", 398), api.OK},
		{program("b", 10), api.ErrFull},
		{program("a", 399), api.ErrFull},
		{program("a", 397), api.OK},
		{program("a", 380), api.OK},
		{program("b", 18), api.ErrFull},
		{program("b", 17), api.OK},
		{program("b", 18), api.ErrFull},
		{program("c", 8), api.ErrFull},
		{program("a", 1500), api.ErrFull},
		{program("b", 16), api.OK},
	} {
		was := d.Image()
		e := c.Put(x.e)
		if want := m.put(x.e); e != x.want || want != x.want {
			t.Fatalf("Put of a record of %d bytes: %v, want %v (the model: %v)", len(putBytes(x.e)), e, x.want, want)
		}
		has(t, "full", c, m.entries)
		check(t, "full", d, m)
		if e == api.ErrFull && !same(d.Image(), was) {
			t.Error("ErrFull, and the disk has changed")
		}
	}
	if c.Delete("b") != api.OK || m.delete("b") != api.OK {
		t.Error("Delete where all is full")
	}
	check(t, "full", d, m)
}

// lastDisk is a disk of the last generation, whose areas have one sector each.
func lastDisk(t *testing.T) (*disk.Disk, *model) {
	t.Helper()
	d := newDisk(t, 4)
	head := make([]byte, 128)
	head[0], head[7], head[127] = 0x48, 0x80, 0xa5
	sum(head)
	d.Write(0, head)
	d.Flush()
	j, _, e := journal.Open(d)
	if e != api.OK || j.Generation() != 1<<31 {
		t.Fatal("the last generation:", e, j.Generation())
	}
	return d, &model{room: 1, generation: 1 << 31}
}

// TestLastGeneration: it can't be compacted any more, so that Put and Delete tell ErrFull.
func TestLastGeneration(t *testing.T) {
	d, m := lastDisk(t)
	c := open(t, d)
	if c.Put(program("a", 50)) != api.OK || m.put(program("a", 50)) != api.OK {
		t.Fatal("Put while there is room")
	}
	was := d.Image()
	if e := c.Put(program("b", 10)); e != api.ErrFull {
		t.Error("Put:", e)
	}
	if e := c.Delete("a"); e != api.ErrFull {
		t.Error("Delete:", e)
	}
	has(t, "the last generation", c, m.entries)
	check(t, "the last generation", d, m)
	if !same(d.Image(), was) {
		t.Error("ErrFull, and the disk has changed")
	}
}

// TestRuns: many calls on small disks and on greater ones, held against the model.
func TestRuns(t *testing.T) {
	var r numbers = 3
	for range 40 {
		room := []int{1, 2, 3, 8, 20, 60}[r.next(6)]
		d := newDisk(t, 2+2*room+r.next(2))
		c := open(t, d)
		m := &model{room: room, generation: 1}
		for range 50 {
			key := strings.Repeat("k", 1+r.next(3)) + string([]byte{byte('a' + r.next(20))})
			e, want := api.OK, api.OK
			if r.next(3) == 0 {
				e, want = c.Delete(key), m.delete(key)
			} else {
				x := anyEntry(&r, key)
				e, want = c.Put(x), m.put(x)
			}
			if e != want {
				t.Fatalf("room %d: %v, want %v", room, e, want)
			}
			has(t, "in a run", c, m.entries)
			check(t, "in a run", d, m)
			if r.next(10) == 0 {
				c = open(t, d)
			}
		}
	}
}

// anyEntry is an entry that may be.
func anyEntry(r *numbers, key string) api.Entry {
	e := api.Entry{Key: key, Program: strings.Repeat("q", r.next(1+r.next(300)))}
	for p := r.next(30); p < api.MaxPoints && r.next(5) > 0; p += 1 + r.next(300) {
		e.Points = append(e.Points, p)
	}
	if r.next(3) == 0 {
		e.Fault = 1 + r.next(99)
		for range r.next(20) {
			e.Picks = append(e.Picks, r.next(256))
		}
	}
	return e
}
