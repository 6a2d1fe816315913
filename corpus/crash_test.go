package corpus_test

import (
	"bytes"
	"hash/crc32"
	"testing"

	"dredger/api"
	"dredger/disk"
)

// sum gives a head its check sum.
func sum(b []byte) {
	n := crc32.Checksum(b[:123], crc32.MakeTable(crc32.Castagnoli))
	copy(b[123:], []byte{byte(n), byte(n >> 8), byte(n >> 16), byte(n >> 24)})
}

// writes is what a call wrote that led from one image to another: the group that Commit writes; or what Compact wipes, its group and its head, as the journal's chapter says it.
func writes(t *testing.T, before, after [][]byte) *disk.Disk {
	t.Helper()
	d := diskOf(t, before)
	_, old := recorded(t, before)
	_, g := recorded(t, after)
	if g == old {
		write(t, d, before, after, 0, len(before))
		return d
	}
	n := (len(before) - 2) / 2
	from := 2 + g%2*n
	blank := make([][]byte, len(before))
	for i := range blank {
		blank[i] = make([]byte, 128)
	}
	write(t, d, before, blank, from, from+n)
	d.Barrier()
	write(t, d, blank, after, from, from+n)
	d.Barrier()
	write(t, d, before, after, g%2, g%2+1)
	return d
}

// write writes those of some sectors that two images have not in common, as the second one has them.
func write(t *testing.T, d *disk.Disk, a, b [][]byte, from, to int) {
	t.Helper()
	for i := from; i < to; i++ {
		if bytes.Equal(a[i], b[i]) {
			continue
		}
		if e := d.Write(i, b[i]); e != api.OK {
			t.Fatal(e)
		}
	}
}

// everyCrash calls look with a copy of d behind each crash: so many epochs, each choice of the next one's sectors, some ways to tear the last of these.
func everyCrash(t *testing.T, d *disk.Disk, look func(c *disk.Disk)) {
	t.Helper()
	for epochs, next := range append(d.Epochs(), nil) {
		for choice := range 1 << len(next) {
			var keep []int
			for i, s := range next {
				if choice>>i&1 == 1 {
					keep = append(keep, s.Sector)
				}
			}
			for _, torn := range []int{0, 1, 2, 4, 5, 12, 13, 14, 21, 22, 40, 80, 121, 123, 124, 126, 127, 128} {
				c := d.Copy()
				if e := c.Crash(epochs, keep, torn); e != api.OK {
					t.Fatal(e)
				}
				look(c)
				if len(keep) == 0 {
					break
				}
			}
		}
	}
}

// TestCrash: behind a crash within Put or Delete the corpus is what it was, or what it is behind the call; and goes on from there.
func TestCrash(t *testing.T) {
	var r numbers = 11
	compacted, committed := 0, 0
	for _, room := range []int{1, 2, 4, 5} {
		d := newDisk(t, 2+2*room)
		c := open(t, d)
		m := &model{room: room, generation: 1}
		for range 40 {
			before, old, generation := d.Image(), m.entries, m.generation
			key := string([]byte{byte('a' + r.next(4))})
			if r.next(3) == 0 {
				c.Delete(key)
				m.delete(key)
			} else {
				x := program(key, 10+r.next(100*room-60))
				c.Put(x)
				m.put(x)
			}
			if m.generation > generation {
				compacted++
			} else {
				committed++
			}
			seen := [2]int{}
			everyCrash(t, writes(t, before, d.Image()), func(crashed *disk.Disk) {
				c := open(t, crashed)
				got := entriesOf(t, c)
				if sameList(got, old) {
					seen[0]++
				}
				if sameList(got, m.entries) {
					seen[1]++
				}
				if !sameList(got, old) && !sameList(got, m.entries) {
					t.Fatalf("room %d: behind a crash the entries are %v; they were %v, and became %v", room, got, old, m.entries)
				}
				has(t, "behind a crash", c, got)
				has(t, "behind a crash, opened again", open(t, diskOf(t, crashed.Image())), got)
				x := api.Entry{Key: "x"}
				if c.Put(x) == api.OK {
					got = got.with(x)
				}
				has(t, "behind a crash and a Put", open(t, diskOf(t, crashed.Image())), got)
			})
			if seen[0] == 0 || seen[1] == 0 {
				t.Fatal("the crashes leave one outcome alone:", seen)
			}
		}
	}
	if compacted < 20 || committed < 20 {
		t.Error("too few crashes of one kind:", compacted, committed)
	}
}
