package journal_test

import (
	"bytes"
	"slices"
	"strconv"
	"strings"
	"testing"

	"dredger/api"
	"dredger/disk"
	"dredger/journal"
)

func TestOpenRefused(t *testing.T) {
	for _, d := range []*disk.Disk{nil, {}} {
		if j, recs, e := journal.Open(d); j != nil || len(recs) != 0 || e != api.ErrNil {
			t.Error("Open of no disk:", j, recs, e)
		}
	}
	for n := 1; n < 4; n++ {
		image := blank(n)
		image[0] = headBytes(2)
		d := diskOf(t, image)
		d.Write(n-1, bytes.Repeat([]byte{7}, 128))
		if j, recs, e := journal.Open(d); j != nil || len(recs) != 0 || e != api.ErrArg {
			t.Errorf("Open of %d sectors: %v, %v, %v", n, j, recs, e)
		}
		if !same(d.Image(), image) || len(d.Epochs()) != 1 {
			t.Errorf("Open of %d sectors was refused, and has changed the disk", n)
		}
	}
}

// TestOpenNew: a new disk has the head of generation 1 in sector 1, and nothing else.
func TestOpenNew(t *testing.T) {
	for _, x := range []struct{ sectors, room int }{{4, 1}, {5, 1}, {6, 2}, {7, 2}, {10, 4}, {api.MaxSectors - 1, 1022}, {api.MaxSectors, 1023}} {
		d := newDisk(t, x.sectors)
		j, recs := open(t, d)
		if len(recs) != 0 || j.Generation() != 1 || j.Room() != x.room || j.Used() != 0 || j.Waiting() != 0 {
			t.Errorf("%d sectors: %d records, generation %d, room %d, used %d", x.sectors, len(recs), j.Generation(), j.Room(), j.Used())
		}
		want := blank(x.sectors)
		copy(want[1], []byte{0x48, 0, 0, 0, 1})
		seal(want[1])
		if !same(d.Image(), want) || len(d.Epochs()) != 0 {
			t.Errorf("%d sectors: another image", x.sectors)
		}
	}
}

// TestOpenWithoutHead: sector 0 and generation 1's area are wiped; the other area and a sector that belongs to none stay.
func TestOpenWithoutHead(t *testing.T) {
	for _, sectors := range []int{4, 5, 9, 10} {
		image := blank(sectors)
		for i := range image {
			image[i] = bytes.Repeat([]byte{byte(i + 1)}, 128)
		}
		_, d := checkOpen(t, "other bytes", image)
		at, n := areaAt(sectors, 1)
		for i, b := range d.Image() {
			wiped := i == 0 || i >= at && i < at+n
			if wiped != bytes.Equal(b, make([]byte, 128)) || !wiped && i != 1 && !bytes.Equal(b, image[i]) {
				t.Errorf("%d sectors: sector %d is %x", sectors, i, b[:4])
			}
		}
	}
	// Groups of generation 1 without a head are not taken over.
	image := laid(10, 1, []string{"old"})
	image[1] = make([]byte, 128)
	checkOpen(t, "groups without a head", image)
}

func TestOpenReadsGroups(t *testing.T) {
	long := strings.Repeat("x", api.MaxRecord)
	for _, sectors := range []int{60, 61} {
		for _, g := range []int{1, 2, 3, 1000, 1<<31 - 1, 1 << 31} {
			image := laid(sectors, g, []string{"a", "bc"}, []string{long}, []string{"d"})
			j, _ := checkOpen(t, "groups", image)
			_, recs := open(t, diskOf(t, image))
			if !slices.Equal(told(recs), []string{"a", "bc", long, "d"}) || j.Used() != 23 || j.Generation() != g {
				t.Errorf("generation %d: %d records, %d sectors", g, len(recs), j.Used())
			}
		}
	}
}

// TestOpenWipes: the other head, if it is not right, and all behind the last group.
func TestOpenWipes(t *testing.T) {
	other := bytes.Repeat([]byte{9}, 128)
	for _, g := range []int{2, 3, 1 << 31} {
		image := laid(13, g, []string{"a"}, []string{"b", "c"})
		at, n := areaAt(13, g)
		image[at+2][5], image[at+4][127] = 1, 1
		image[1-g%2] = bytes.Clone(other)
		for i := range image {
			if i > 1 && (i < at || i >= at+n) {
				image[i] = bytes.Clone(other)
			}
		}
		_, d := checkOpen(t, "left-overs", image)
		for i, b := range d.Image() {
			want := image[i]
			if i == 1-g%2 || i >= at+2 && i < at+n {
				want = make([]byte, 128)
			}
			if !bytes.Equal(b, want) {
				t.Errorf("generation %d: sector %d is %x", g, i, b[:6])
			}
		}
	}
	image := laid(10, 7, []string{"a"})
	image[0] = headBytes(4)
	if _, d := checkOpen(t, "two right heads", image); !bytes.Equal(d.Image()[0], headBytes(4)) {
		t.Error("the other head is right, and was wiped")
	}
}

// TestOpenFlushes: only if a sector was wiped, or a head written. What was written ahead and lies in no sector of the journal's tells it.
func TestOpenFlushes(t *testing.T) {
	mark := bytes.Repeat([]byte{3}, 128)
	for _, x := range []struct {
		name  string
		image [][]byte
		spoil int // the sector that gets other bytes, if it is not 10
		want  int // epochs that are left
	}{
		{"nothing to wipe", laid(11, 1, []string{"a"}), 10, 1},
		{"two right heads", lay(laid(11, 1, []string{"a"}), 0, [][]byte{headBytes(2)}), 10, 1},
		{"another area with bytes", lay(laid(11, 1, []string{"a"}), 2, [][]byte{mark}), 10, 1},
		{"the other head", laid(11, 1, []string{"a"}), 0, 0},
		{"behind the last group", laid(11, 1, []string{"a"}), 9, 0},
		{"without a head", blank(11), 10, 0},
		{"without a head, and bytes", blank(11), 6, 0},
	} {
		if x.spoil < 10 {
			x.image[x.spoil] = mark
		}
		d := diskOf(t, x.image)
		d.Write(10, mark)
		open(t, d)
		if len(d.Epochs()) != x.want || bytes.Equal(d.Image()[10], mark) != (x.want == 0) {
			t.Errorf("%s: %d epochs are left", x.name, len(d.Epochs()))
		}
	}
}

// TestOpenReadsTheCache: what was written and is not durable counts.
func TestOpenReadsTheCache(t *testing.T) {
	d := newDisk(t, 10)
	for i, b := range laid(10, 2, []string{"a"}) {
		d.Write(i, b)
	}
	j, recs := open(t, d)
	if j.Generation() != 2 || !slices.Equal(told(recs), []string{"a"}) {
		t.Error(j.Generation(), told(recs))
	}
}

// TestOpenTurnedHead: one byte of the greatest head turned; the other one counts, or generation 1 begins.
func TestOpenTurnedHead(t *testing.T) {
	for i := range 128 {
		for _, turn := range []byte{1, 0x80, 0xff} {
			image := laid(10, 5, []string{"new"})
			image[1][i] ^= turn
			j, _ := checkOpen(t, "a turned head", image)
			if j.Generation() != 1 || j.Used() != 0 {
				t.Errorf("byte %d: generation %d", i, j.Generation())
			}
			lay(image, 0, [][]byte{headBytes(4)})
			lay(image, 2, groupBytes(0, 4, 1, texts("old")))
			checkOpen(t, "a turned head beside an older one", image)
			if _, recs := open(t, diskOf(t, image)); !slices.Equal(told(recs), []string{"old"}) {
				t.Errorf("byte %d: %q", i, told(recs))
			}
		}
	}
}

// TestOpenWrongHead: heads whose sum is right, and which are none.
func TestOpenWrongHead(t *testing.T) {
	for _, x := range []struct {
		name string
		at   int
		g    uint64
		want int
	}{
		{"0", 0, 0, 1},
		{"2^31", 0, 1 << 31, 1 << 31},
		{"2^31 + 1", 1, 1<<31 + 1, 1},
		{"2^31 + 2", 0, 1<<31 + 2, 1},
		{"2^32 + 2", 0, 1<<32 + 2, 1},
		{"2^63", 0, 1 << 63, 1},
		{"2^63 + 2", 0, 1<<63 + 2, 1},
		{"2^64 - 1", 1, 1<<64 - 1, 1},
		{"3 in sector 0", 0, 3, 1},
		{"2 in sector 1", 1, 2, 1},
		{"3", 1, 3, 3},
	} {
		image := blank(10)
		image[x.at] = headBytes(x.g)
		if j, _ := checkOpen(t, "head "+x.name, image); j.Generation() != x.want {
			t.Errorf("head %s: generation %d", x.name, j.Generation())
		}
	}
	for _, g := range []uint64{0, 1<<31 + 2, 1 << 63, 1<<63 + 2, 1<<64 - 2} {
		image := laid(10, 3, []string{"a"})
		image[0] = headBytes(g)
		if _, d := checkOpen(t, "a wrong head beside a right one", image); !bytes.Equal(d.Image()[0], make([]byte, 128)) {
			t.Errorf("a head of generation %d stays", g)
		}
	}
	for i := range 123 {
		image := blank(10)
		image[0] = headBytes(2)
		image[0][i] ^= 1
		seal(image[0])
		if j, _ := checkOpen(t, "a head of another form", image); i < 4 && j.Generation() != 1 || i > 11 && j.Generation() != 1 {
			t.Errorf("a head with byte %d turned, and its sum: generation %d", i, j.Generation())
		}
	}
}

// TestOpenTurnedSector: one byte of a sector of a group turned, with its old sum and with a new one.
func TestOpenTurnedSector(t *testing.T) {
	whole := laid(12, 2, []string{"a"}, []string{strings.Repeat("b", 150)}, []string{"c"})
	for place := range 4 {
		for i := range 128 {
			for _, turn := range []byte{1, 2, 0x80} {
				image := deep(whole)
				image[2+place][i] ^= turn
				j, _ := checkOpen(t, "a turned sector", image)
				if want := []int{0, 1, 1, 3}[place]; j.Used() != want {
					t.Errorf("place %d, byte %d turned: used %d, want %d", place, i, j.Used(), want)
				}
				seal(image[2+place])
				checkOpen(t, "a turned sector with a new sum", image)
			}
		}
	}
}

// TestOpenWrongGroups: sectors whose sums are right, and which are no group.
func TestOpenWrongGroups(t *testing.T) {
	load := func(n int) []byte { return texts(strings.Repeat("x", n-1)) }
	a, long := texts("a"), load(100)
	more := slices.Concat(a, make([]byte, 90))
	for _, x := range []struct {
		name  string
		parts []part
		used  int
	}{
		{"one", []part{{2, 0, 2, 1, 1, a}}, 1},
		{"two records", []part{{4, 0, 2, 1, 1, texts("a", "b")}}, 1},
		{"number 0", []part{{2, 0, 2, 1, 0, a}}, 0},
		{"number 2 first", []part{{2, 0, 2, 1, 2, a}}, 0},
		{"a number beyond 2^63", []part{{2, 0, 2, 1, 1<<63 + 1, a}}, 0},
		{"the same number twice", []part{{2, 0, 2, 1, 1, a}, {2, 1, 2, 1, 1, a}}, 1},
		{"number 3 behind 1", []part{{2, 0, 2, 1, 1, a}, {2, 1, 2, 1, 3, a}}, 1},
		{"1, 2, 3", []part{{2, 0, 2, 1, 1, a}, {2, 1, 2, 1, 2, a}, {2, 2, 2, 1, 3, a}}, 3},
		{"place 1 at 0", []part{{2, 1, 2, 1, 1, a}}, 0},
		{"place 256 at 0", []part{{2, 256, 2, 1, 1, a}}, 0},
		{"a later generation", []part{{2, 0, 3, 1, 1, a}}, 0},
		{"generation 2^32 + 2", []part{{2, 0, 1<<32 + 2, 1, 1, a}}, 0},
		{"mark 2", []part{{2, 0, 2, 2, 1, a}}, 0},
		{"mark 255", []part{{2, 0, 2, 255, 1, a}}, 0},
		{"nothing used", []part{{0, 0, 2, 1, 1, nil}}, 0},
		{"101 used", []part{{101, 0, 2, 1, 1, long}}, 0},
		{"101 used, of which the last is a nought", []part{{101, 0, 2, 1, 1, append([]byte{100}, long[1:]...)}}, 0},
		{"255 used", []part{{255, 0, 2, 1, 1, long}}, 0},
		{"all used", []part{{100, 0, 2, 1, 1, long}}, 1},
		{"bytes behind what is used", []part{{2, 0, 2, 1, 1, texts("a", "b")}}, 0},
		{"a record of nothing", []part{{1, 0, 2, 1, 1, []byte{0}}}, 0},
		{"a record of nothing behind one", []part{{3, 0, 2, 1, 1, []byte{1, 'a', 0}}}, 0},
		{"a text that is cut", []part{{2, 0, 2, 1, 1, []byte{2, 'a'}}}, 0},
		{"a length that is cut", []part{{1, 0, 2, 1, 1, []byte{0x81}}}, 0},
		{"a length that begins with 80", []part{{3, 0, 2, 1, 1, []byte{0x80, 1, 'a'}}}, 0},
		{"noughts behind a text", []part{{92, 0, 2, 1, 1, more}}, 0},
		{"no last one", []part{{100, 0, 2, 0, 1, long}}, 0},
		{"no last one, to the end", []part{{100, 0, 2, 0, 1, long}, {100, 1, 2, 0, 1, long}, {100, 2, 2, 0, 1, long}, {100, 3, 2, 0, 1, long}}, 0},
		{"four sectors", []part{{100, 0, 2, 0, 1, long}, {100, 1, 2, 0, 1, long}, {100, 2, 2, 0, 1, long}, {100, 3, 2, 1, 1, long}}, 4},
		{"99 used, and not the last", []part{{99, 0, 2, 0, 1, load(99)}, {2, 1, 2, 1, 1, a}}, 0},
		{"nothing used behind all", []part{{100, 0, 2, 0, 1, long}, {0, 1, 2, 1, 1, nil}}, 0},
		{"another number within", []part{{100, 0, 2, 0, 1, long}, {2, 1, 2, 1, 2, a}}, 0},
		{"one missing within", []part{{100, 0, 2, 0, 1, long}, {2, 2, 2, 1, 1, a}}, 0},
		{"a wrong group between", []part{{2, 0, 2, 1, 1, a}, {1, 1, 2, 1, 2, []byte{0}}, {2, 2, 2, 1, 2, a}}, 1},
	} {
		image := blank(10)
		image[0] = headBytes(2)
		for i, p := range x.parts {
			image[2+i] = p.bytes()
		}
		if j, _ := checkOpen(t, x.name, image); j.Used() != x.used {
			t.Errorf("%s: used %d, want %d", x.name, j.Used(), x.used)
		}
	}
}

// TestOpenLongRecord: MaxRecord bytes are one, one more is none.
func TestOpenLongRecord(t *testing.T) {
	for n, used := range map[int]int{api.MaxRecord: 21, api.MaxRecord + 1: 0, 1998: 20, 1999: 21} {
		image := blank(62)
		image[0] = headBytes(2)
		lay(image, 2, groupBytes(0, 2, 1, texts(strings.Repeat("x", n))))
		if j, _ := checkOpen(t, strconv.Itoa(n), image); j.Used() != used {
			t.Errorf("a record of %d bytes: used %d, want %d", n, j.Used(), used)
		}
	}
}

// TestOpenAny: images of all kinds, made of right parts and of others, with bytes turned.
func TestOpenAny(t *testing.T) {
	var r numbers = 1
	for range 6000 {
		sectors := 4 + r.next(9)
		image := blank(sectors)
		for range r.next(12) {
			image[r.next(sectors)] = anySector(&r, sectors)
		}
		if r.next(4) > 0 {
			g := r.next(4) + 1
			image[g%2] = headBytes(uint64(g))
			at, n := areaAt(sectors, g)
			for place, number := 0, 1; place < n && r.next(6) > 0; number++ {
				b := groupBytes(place, uint64(g), uint64(number), anyTexts(&r))
				b = b[:min(len(b), n-place)]
				lay(image, at+place, b)
				place += len(b)
			}
		}
		for range r.next(3) {
			image[r.next(sectors)][r.next(128)] ^= byte(1 << r.next(8))
		}
		checkOpen(t, "any disk", image)
		if t.Failed() {
			return
		}
	}
}

func anySector(r *numbers, sectors int) []byte {
	switch r.next(4) {
	case 0:
		return headBytes(uint64(r.next(5)))
	case 1:
		b := make([]byte, 128)
		for i := range b {
			b[i] = byte(r.next(256))
		}
		return b
	}
	load := anyTexts(r)
	load = load[:min(len(load), 100)]
	return part{len(load), r.next(sectors), uint64(r.next(4)), byte(r.next(2)), uint64(r.next(4)), load}.bytes()
}

// anyTexts is some records as texts, now and then with something wrong in them.
func anyTexts(r *numbers) []byte {
	var load []byte
	for range 1 + r.next(3) {
		load = append(load, texts(strings.Repeat("r", 1+r.next(150)))...)
	}
	if r.next(6) == 0 {
		load[r.next(len(load))]++
	}
	return load
}
