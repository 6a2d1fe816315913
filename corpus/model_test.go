package corpus_test

import (
	"bytes"
	"reflect"
	"slices"
	"testing"

	"dredger/api"
	"dredger/corpus"
	"dredger/disk"
	"dredger/journal"
)

// This file is a second corpus, written from the chapter: records as bytes, and what they leave.

// num is a number of wire, of up to 14 bits.
func num(n int) []byte {
	if n < 128 {
		return []byte{byte(n)}
	}
	return []byte{0x80 | byte(n>>7), byte(n & 127)}
}

func text(s string) []byte { return append(num(len(s)), s...) }

func nums(list []int) []byte {
	b := num(len(list))
	for _, n := range list {
		b = append(b, num(n)...)
	}
	return b
}

func putBytes(e api.Entry) []byte {
	return slices.Concat([]byte{1}, text(e.Key), text(e.Program), nums(e.Points), num(e.Fault), nums(e.Picks))
}

func deleteBytes(key string) []byte { return append([]byte{2}, text(key)...) }

// list is entries by their keys.
type list []api.Entry

func (l list) find(key string) (int, bool) {
	return slices.BinarySearchFunc(l, key, func(e api.Entry, key string) int {
		return bytes.Compare([]byte(e.Key), []byte(key))
	})
}

func (l list) with(e api.Entry) list {
	at, there := l.find(e.Key)
	if there {
		return slices.Concat(l[:at], list{e}, l[at+1:])
	}
	return slices.Concat(l[:at], list{e}, l[at:])
}

func (l list) without(key string) list {
	at, _ := l.find(key)
	return slices.Concat(l[:at], l[at+1:])
}

func (l list) records() [][]byte {
	var recs [][]byte
	for _, e := range l {
		recs = append(recs, putBytes(e))
	}
	return recs
}

// points is those of all programs, by a table of all points.
func (l list) points() []int {
	var has [api.MaxPoints]bool
	for _, e := range l {
		for _, p := range e.Points {
			has[p] = has[p] || e.Fault == 0
		}
	}
	var all []int
	for p, is := range has {
		if is {
			all = append(all, p)
		}
	}
	return all
}

// sectors is how many a group of records needs.
func sectors(recs ...[]byte) int {
	size := 0
	for _, r := range recs {
		size += len(text(string(r)))
	}
	return (size + api.Load - 1) / api.Load
}

// model is a corpus with its journal: records, how many sectors they have, and of how many.
type model struct {
	entries    list
	recs       [][]byte
	used, room int
	generation int
}

func (m *model) change(rec []byte, next list) api.Errno {
	switch {
	case m.used+sectors(rec) <= m.room:
		m.recs = append(m.recs, rec)
		m.used += sectors(rec)
	case sectors(next.records()...) <= m.room:
		m.recs = next.records()
		m.used = sectors(m.recs...)
		m.generation++
	default:
		return api.ErrFull
	}
	m.entries = next
	return api.OK
}

func (m *model) put(e api.Entry) api.Errno {
	rec := putBytes(e)
	if len(rec) > api.MaxRecord {
		return api.ErrLong
	}
	next := m.entries.with(e)
	if len(next) > api.MaxEntries {
		return api.ErrFull
	}
	return m.change(rec, next)
}

func (m *model) delete(key string) api.Errno {
	if _, there := m.entries.find(key); !there {
		return api.ErrGone
	}
	return m.change(deleteBytes(key), m.entries.without(key))
}

// plain is an entry whose empty lists are nil.
func plain(e api.Entry) api.Entry {
	if len(e.Points) == 0 {
		e.Points = nil
	}
	if len(e.Picks) == 0 {
		e.Picks = nil
	}
	return e
}

func sameEntry(a, b api.Entry) bool { return reflect.DeepEqual(plain(a), plain(b)) }

func sameList(a, b list) bool { return slices.EqualFunc(a, b, sameEntry) }

// entriesOf is all that a corpus has, by Keys and Get.
func entriesOf(t *testing.T, c *corpus.Corpus) list {
	t.Helper()
	var all list
	for _, key := range c.Keys() {
		e, why := c.Get(key)
		if why != api.OK || e.Key != key {
			t.Fatalf("Get of %q, which Keys tells: %v, %q", key, why, e.Key)
		}
		all = append(all, e)
	}
	return all
}

// has holds what a corpus tells against entries.
func has(t *testing.T, what string, c *corpus.Corpus, want list) {
	t.Helper()
	if got := entriesOf(t, c); !sameList(got, want) {
		t.Errorf("%s: the entries are %v, want %v", what, got, want)
	}
	if got := c.Points(); !slices.Equal(got, want.points()) {
		t.Errorf("%s: the points are %v, want %v", what, got, want.points())
	}
}

func newDisk(t *testing.T, sectors int) *disk.Disk {
	t.Helper()
	d, e := disk.New(sectors)
	if e != api.OK {
		t.Fatal(e)
	}
	return d
}

func diskOf(t *testing.T, image [][]byte) *disk.Disk {
	t.Helper()
	d, e := disk.Of(image)
	if e != api.OK {
		t.Fatal(e)
	}
	return d
}

func open(t *testing.T, d *disk.Disk) *corpus.Corpus {
	t.Helper()
	c, e := corpus.Open(d)
	if e != api.OK || c == nil {
		t.Fatal("Open:", e)
	}
	return c
}

// recorded is the records, and the generation, that the journal of an image has.
func recorded(t *testing.T, image [][]byte) ([][]byte, int) {
	t.Helper()
	j, recs, e := journal.Open(diskOf(t, image))
	if e != api.OK {
		t.Fatal(e)
	}
	return recs, j.Generation()
}

// holding is a corpus of a disk whose journal has these records.
func holding(t *testing.T, sectors int, recs ...[]byte) *corpus.Corpus {
	t.Helper()
	d := newDisk(t, sectors)
	j, _, _ := journal.Open(d)
	for _, r := range recs {
		if j.Append(r) != api.OK || j.Commit() != api.OK {
			t.Fatal("the journal has no room")
		}
	}
	return open(t, d)
}

func same(a, b [][]byte) bool { return slices.EqualFunc(a, b, bytes.Equal) }

// numbers is a source of the same numbers each time.
type numbers uint64

func (n *numbers) next(below int) int {
	*n = *n*6364136223846793005 + 1442695040888963407
	return int(uint64(*n)>>33) % below
}
