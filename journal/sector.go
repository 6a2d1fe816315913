package journal

import (
	"bytes"

	"dredger/api"
	"dredger/wire"
)

const (
	heads = 2 // sectors ahead of the areas

	headMark   = 0x48 // the first byte of a head
	sectorMark = 0x4a // of a sector of the journal
	endMark    = 0xa5 // the last byte of both

	atUsed       = 1 // places in a sector
	atPlace      = 2
	atGeneration = 4 // in a head too
	atLast       = 12
	atNumber     = 13
	atLoad       = 21
	atSum        = 123
	atEnd        = 127
)

// area is where a generation has its groups: from a sector on, so many.
type area struct{ generation, first, size int }

func areaOf(generation, sectors int) area {
	size := (sectors - heads) / 2
	return area{generation, heads + generation%2*size, size}
}

// next is the area of the next generation, which is the other one.
func (a area) next() area {
	return areaOf(a.generation+1, heads+2*a.size)
}

// behind is the sectors of an area from a place on.
func (a area) behind(place int) []int {
	var sectors []int
	for ; place < a.size; place++ {
		sectors = append(sectors, a.first+place)
	}
	return sectors
}

// headOf is the sector that a generation's head stands in.
func headOf(generation int) int { return generation % heads }

// head is the bytes of a generation's head.
func head(generation int) []byte {
	b := make([]byte, api.Size)
	b[0] = headMark
	putLow(b[atGeneration:atLast], generation)
	return sealed(b)
}

// rightHead is the generation of a right head; 0, if b is none that may stand in this sector. One that is made again is held against b, so that no byte goes unseen.
func rightHead(b []byte, i int) int {
	generation := low(b[atGeneration:atLast])
	if generation < 1 || generation > latest || headOf(generation) != i || !bytes.Equal(b, head(generation)) {
		return 0
	}
	return generation
}

// sector is one of the journal: where it stands, the group that it belongs to, whether it is that one's last, and the bytes of its load that are used.
type sector struct {
	place, generation, number int
	last                      bool
	load                      []byte
}

func (s sector) bytes() []byte {
	b := make([]byte, api.Size)
	b[0] = sectorMark
	b[atUsed] = byte(len(s.load))
	putLow(b[atPlace:atGeneration], s.place)
	putLow(b[atGeneration:atLast], s.generation)
	if s.last {
		b[atLast] = 1
	}
	putLow(b[atNumber:atLoad], s.number)
	copy(b[atLoad:], s.load)
	return sealed(b)
}

// rightSector is what b holds; false, if it is no right sector of this place and generation, or of another group. Like a head, it is made again and held against b.
func rightSector(b []byte, place, generation, number int) (sector, bool) {
	used := int(b[atUsed])
	if used < 1 || used > api.Load {
		return sector{}, false
	}
	s := sector{place, generation, number, b[atLast] == 1, b[atLoad : atLoad+used]}
	if !bytes.Equal(b, s.bytes()) {
		return sector{}, false
	}
	return s, true
}

// sealed is b with its sum and its last byte.
func sealed(b []byte) []byte {
	putLow(b[atSum:atEnd], int(wire.Sum(b[:atSum])))
	b[atEnd] = endMark
	return b
}

// putLow fills b with a number, the lowest byte first.
func putLow(b []byte, n int) {
	for i := range b {
		b[i] = byte(n >> (8 * i))
	}
}

// low is the number that putLow writes; of eight bytes it may be below 0, which is none that is written.
func low(b []byte) int {
	n := 0
	for i, c := range b {
		n |= int(c) << (8 * i)
	}
	return n
}
