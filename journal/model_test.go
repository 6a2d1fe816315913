package journal_test

import (
	"bytes"
	"encoding/binary"
	"hash/crc32"
	"slices"
	"testing"

	"dredger/api"
	"dredger/disk"
	"dredger/journal"
)

// This file is a second journal, written from the chapter: its sectors as bytes, and what Open makes of an image.

func seal(b []byte) []byte {
	binary.LittleEndian.PutUint32(b[123:], crc32.Checksum(b[:123], crc32.MakeTable(crc32.Castagnoli)))
	b[127] = 0xa5
	return b
}

func headBytes(g uint64) []byte {
	b := make([]byte, 128)
	b[0] = 0x48
	binary.LittleEndian.PutUint64(b[4:], g)
	return seal(b)
}

// part is a sector of the journal, as the chapter lists its bytes.
type part struct {
	used, place int
	generation  uint64
	last        byte
	number      uint64
	load        []byte
}

func (p part) bytes() []byte {
	b := make([]byte, 128)
	b[0], b[1], b[12] = 0x4a, byte(p.used), p.last
	binary.LittleEndian.PutUint16(b[2:], uint16(p.place))
	binary.LittleEndian.PutUint64(b[4:], p.generation)
	binary.LittleEndian.PutUint64(b[13:], p.number)
	copy(b[21:121], p.load)
	return seal(b)
}

// texts is records as texts of wire; those of up to 16383 bytes have a length of one or two bytes.
func texts(recs ...string) []byte {
	var b []byte
	for _, r := range recs {
		if len(r) > 127 {
			b = append(b, 0x80|byte(len(r)>>7))
		}
		b = append(b, byte(len(r)&127))
		b = append(b, r...)
	}
	return b
}

// groupBytes is the sectors of a group.
func groupBytes(place int, generation, number uint64, load []byte) [][]byte {
	var all [][]byte
	for len(load) > 100 {
		all = append(all, part{100, place, generation, 0, number, load[:100]}.bytes())
		load = load[100:]
		place++
	}
	return append(all, part{len(load), place, generation, 1, number, load}.bytes())
}

// blank is an image of noughts.
func blank(sectors int) [][]byte {
	image := make([][]byte, sectors)
	for i := range image {
		image[i] = make([]byte, 128)
	}
	return image
}

// lay puts sectors into an image from one on.
func lay(image [][]byte, at int, sectors [][]byte) [][]byte {
	for i, b := range sectors {
		image[at+i] = bytes.Clone(b)
	}
	return image
}

// areaAt is the first sector of a generation's area, and how many it has.
func areaAt(sectors, generation int) (int, int) {
	n := (sectors - 2) / 2
	if generation%2 == 0 {
		return 2, n
	}
	return 2 + n, n
}

// laid is an image with a head of a generation, and groups of records.
func laid(sectors, generation int, groups ...[]string) [][]byte {
	image := blank(sectors)
	image[generation%2] = headBytes(uint64(generation))
	at, _ := areaAt(sectors, generation)
	place := 0
	for i, recs := range groups {
		b := groupBytes(place, uint64(generation), uint64(i+1), texts(recs...))
		lay(image, at+place, b)
		place += len(b)
	}
	return image
}

func deep(image [][]byte) [][]byte {
	out := make([][]byte, len(image))
	for i, b := range image {
		out[i] = bytes.Clone(b)
	}
	return out
}

func same(a, b [][]byte) bool { return slices.EqualFunc(a, b, bytes.Equal) }

// state is what an opened journal tells, and the image that it left.
type state struct {
	image            [][]byte
	recs             [][]byte
	generation, used int
}

func modelHead(b []byte, i int) int {
	g := binary.LittleEndian.Uint64(b[4:])
	if g < 1 || g > 1<<31 || g%2 != uint64(i) || !bytes.Equal(b, headBytes(g)) {
		return 0
	}
	return int(g)
}

// modelRight is a sector that has the form; place, generation and number are looked at by who asks.
func modelRight(b []byte) (part, bool) {
	p := part{int(b[1]), int(binary.LittleEndian.Uint16(b[2:])), binary.LittleEndian.Uint64(b[4:]), b[12], binary.LittleEndian.Uint64(b[13:]), nil}
	if p.used < 1 || p.used > 100 || p.last > 1 {
		return p, false
	}
	p.load = bytes.Clone(b[21 : 21+p.used])
	return p, bytes.Equal(b, p.bytes())
}

// modelTexts is the records of a load; none, if it is no group's.
func modelTexts(load []byte) [][]byte {
	var recs [][]byte
	for len(load) > 0 {
		n, size := int(load[0]), 1
		if n > 128 && len(load) > 1 && load[1] < 128 {
			n, size = n&127<<7|int(load[1]), 2
		} else if n >= 128 {
			return nil
		}
		if n < 1 || n > 2000 || size+n > len(load) {
			return nil
		}
		recs = append(recs, load[size:size+n])
		load = load[size+n:]
	}
	return recs
}

func modelOpen(image [][]byte) state {
	s := state{image: deep(image)}
	heads := [2]int{modelHead(image[0], 0), modelHead(image[1], 1)}
	s.generation = max(heads[0], heads[1])
	if s.generation == 0 {
		s.generation = 1
		s.image[0], s.image[1] = make([]byte, 128), headBytes(1)
		at, n := areaAt(len(image), 1)
		lay(s.image, at, blank(n))
		return s
	}
	at, n := areaAt(len(image), s.generation)
	number := uint64(1)
	var load []byte
	for place := range n {
		p, ok := modelRight(image[at+place])
		if !ok || p.place != place || p.generation != uint64(s.generation) || p.number != number {
			break
		}
		load = append(load, p.load...)
		if p.last == 0 && p.used < 100 {
			break
		}
		if p.last == 1 {
			recs := modelTexts(load)
			if recs == nil {
				break
			}
			s.recs = append(s.recs, recs...)
			s.used = place + 1
			number++
			load = nil
		}
	}
	if other := 1 - s.generation%2; heads[other] == 0 {
		s.image[other] = make([]byte, 128)
	}
	lay(s.image, at+s.used, blank(n-s.used))
	return s
}

func diskOf(t *testing.T, image [][]byte) *disk.Disk {
	t.Helper()
	d, e := disk.Of(image)
	if e != api.OK {
		t.Fatal(e)
	}
	return d
}

func newDisk(t *testing.T, sectors int) *disk.Disk {
	t.Helper()
	return diskOf(t, blank(sectors))
}

func open(t *testing.T, d *disk.Disk) (*journal.Journal, [][]byte) {
	t.Helper()
	j, recs, e := journal.Open(d)
	if e != api.OK || j == nil {
		t.Fatal("Open:", e)
	}
	return j, recs
}

// checkOpen opens an image, twice, and holds all that can be told against the model.
func checkOpen(t *testing.T, what string, image [][]byte) (*journal.Journal, *disk.Disk) {
	t.Helper()
	want := modelOpen(image)
	d := diskOf(t, image)
	var j *journal.Journal
	for _, time := range []string{"", " again"} {
		var recs [][]byte
		j, recs = open(t, d)
		_, n := areaAt(len(image), want.generation)
		if !same(recs, want.recs) || j.Generation() != want.generation || j.Used() != want.used || j.Room() != n-want.used || j.Waiting() != 0 {
			t.Errorf("%s, opened%s: %d records, generation %d, used %d, room %d; want %d, %d, %d, %d", what, time, len(recs), j.Generation(), j.Used(), j.Room(), len(want.recs), want.generation, want.used, n-want.used)
		}
		if !same(d.Image(), want.image) || len(d.Epochs()) != 0 {
			t.Errorf("%s, opened%s: another image is left", what, time)
		}
	}
	return j, d
}

// told is records as texts.
func told(recs [][]byte) []string {
	var s []string
	for _, r := range recs {
		s = append(s, string(r))
	}
	return s
}

// numbers is a source of the same numbers each time.
type numbers uint64

func (n *numbers) next(below int) int {
	*n = *n*6364136223846793005 + 1442695040888963407
	return int(uint64(*n)>>33) % below
}
