package disk_test

import (
	"bytes"
	"math"
	"testing"

	"dredger/api"
	"dredger/disk"
)

// filled is a sector of one byte.
func filled(c byte) []byte { return bytes.Repeat([]byte{c}, api.Size) }

// sectors is an image, or some sectors, of one byte each.
func sectors(text string) [][]byte {
	var image [][]byte
	for i := range len(text) {
		image = append(image, filled(text[i]))
	}
	return image
}

// disk3 is a durable disk of three sectors: a, b, c.
func disk3(t *testing.T) *disk.Disk {
	t.Helper()
	d, e := disk.Of(sectors("abc"))
	if e != api.OK {
		t.Fatal(e)
	}
	return d
}

// write writes sectors 0, 1, 2 of one byte each: "-x|" is x to sector 1 and a barrier.
func write(t *testing.T, d *disk.Disk, steps string) {
	t.Helper()
	place := 0
	for _, c := range []byte(steps) {
		e := api.OK
		switch c {
		case '|':
			e = d.Barrier()
			place = 0
		case '-':
			place++
		default:
			e = d.Write(place, filled(c))
			place++
		}
		if e != api.OK {
			t.Fatal(steps, e)
		}
	}
}

// told is epochs as a text: of each its sectors, each a digit and the byte that it is filled with; '|' ends one.
func told(t *testing.T, epochs [][]api.Sent) string {
	t.Helper()
	var s []byte
	for _, epoch := range epochs {
		for _, x := range epoch {
			if !bytes.Equal(x.Bytes, filled(x.Bytes[0])) {
				t.Fatal("a write that is mixed:", x.Bytes)
			}
			s = append(s, byte('0'+x.Sector), x.Bytes[0])
		}
		s = append(s, '|')
	}
	return string(s)
}

func same(a, b [][]byte) bool {
	if len(a) != len(b) {
		return false
	}
	for i := range a {
		if !bytes.Equal(a[i], b[i]) {
			return false
		}
	}
	return true
}

// reads is what Read tells of all sectors.
func reads(t *testing.T, d *disk.Disk) [][]byte {
	t.Helper()
	var image [][]byte
	for i := range d.Sectors() {
		b, e := d.Read(i)
		if e != api.OK {
			t.Fatal(i, e)
		}
		image = append(image, b)
	}
	return image
}

func TestNew(t *testing.T) {
	for _, n := range []int{math.MinInt, -1, 0, api.MaxSectors + 1, math.MaxInt} {
		if d, e := disk.New(n); d != nil || e != api.ErrArg {
			t.Errorf("New(%d): %v, %v", n, d, e)
		}
	}
	for _, n := range []int{1, 2, 7, api.MaxSectors} {
		d, e := disk.New(n)
		if e != api.OK || d.Sectors() != n || len(d.Epochs()) != 0 {
			t.Fatalf("New(%d): %v, %d sectors", n, e, d.Sectors())
		}
		want := make([][]byte, n)
		for i := range want {
			want[i] = filled(0)
		}
		if !same(d.Image(), want) || !same(reads(t, d), want) {
			t.Errorf("New(%d) has not only noughts", n)
		}
	}
}

func TestOf(t *testing.T) {
	many := make([][]byte, api.MaxSectors+1)
	for i := range many {
		many[i] = filled(byte(i))
	}
	for name, image := range map[string][][]byte{
		"nil":             nil,
		"none":            {},
		"one too many":    many,
		"a sector of nil": {filled(1), nil},
		"a short sector":  {filled(1), filled(2)[1:], filled(3)},
		"a long sector":   {append(filled(1), 1)},
	} {
		if d, e := disk.Of(image); d != nil || e != api.ErrArg {
			t.Errorf("Of %s: %v, %v", name, d, e)
		}
	}
	for _, n := range []int{1, 3, api.MaxSectors} {
		d, e := disk.Of(many[:n])
		if e != api.OK || d.Sectors() != n || len(d.Epochs()) != 0 {
			t.Fatalf("Of %d sectors: %v, %d", n, e, d.Sectors())
		}
		if !same(d.Image(), many[:n]) || !same(reads(t, d), many[:n]) {
			t.Errorf("Of %d sectors has others", n)
		}
		if d.Crash(0, nil, api.Size) != api.OK || !same(d.Image(), many[:n]) {
			t.Errorf("Of %d sectors is not durable", n)
		}
	}
}

func TestReadAndWrite(t *testing.T) {
	d := disk3(t)
	for _, i := range []int{math.MinInt, -1, 3, math.MaxInt, math.MaxInt / api.Size} {
		if b, e := d.Read(i); len(b) != 0 || e != api.ErrArg {
			t.Errorf("Read(%d): %v, %v", i, b, e)
		}
		if e := d.Write(i, filled('x')); e != api.ErrArg {
			t.Errorf("Write(%d): %v", i, e)
		}
	}
	for _, b := range [][]byte{nil, {}, filled('x')[1:], append(filled('x'), 'x')} {
		if e := d.Write(1, b); e != api.ErrArg {
			t.Errorf("Write of %d bytes: %v", len(b), e)
		}
	}
	if len(d.Epochs()) != 0 || !same(reads(t, d), sectors("abc")) {
		t.Fatal("a write that was refused has changed something")
	}
	write(t, d, "-x")
	if !same(reads(t, d), sectors("axc")) || !same(d.Image(), sectors("abc")) {
		t.Error("behind one write:", told(t, d.Epochs()))
	}
	write(t, d, "-y|-z|w")
	if !same(reads(t, d), sectors("wzc")) || !same(d.Image(), sectors("abc")) {
		t.Error("behind four writes:", told(t, d.Epochs()))
	}
}

func TestEpochs(t *testing.T) {
	for _, x := range []struct{ steps, want string }{
		{"", ""},
		{"|", ""},
		{"|||", ""},
		{"x", "0x|"},
		{"|x", "0x|"},
		{"x|", "0x|"},
		{"x||||", "0x|"},
		{"xyz", "0x1y2z|"},
		{"xy|||-z", "0x1y|1z|"},
		{"x|x|x", "0x|0x|0x|"},
	} {
		d := disk3(t)
		write(t, d, x.steps)
		if got := told(t, d.Epochs()); got != x.want {
			t.Errorf("%s: epochs %s, want %s", x.steps, got, x.want)
		}
	}
	d := disk3(t)
	for _, i := range []int{2, 0, 1, 2, 0} {
		d.Write(i, filled(byte('x'+i)))
	}
	d.Write(1, filled('!'))
	if got := told(t, d.Epochs()); got != "0x1!2z|" {
		t.Error("written in another order:", got)
	}
}

// TestBarrierStays: a write that is refused does not use up a barrier.
func TestBarrierStays(t *testing.T) {
	d := disk3(t)
	write(t, d, "x|")
	d.Write(9, filled('y'))
	d.Write(0, nil)
	write(t, d, "yz")
	if got := told(t, d.Epochs()); got != "0x|0y1z|" {
		t.Error(got)
	}
}

func TestFlush(t *testing.T) {
	d := disk3(t)
	if d.Flush() != api.OK || !same(d.Image(), sectors("abc")) {
		t.Error("Flush of nothing changes something")
	}
	write(t, d, "xy|-z|w")
	if d.Flush() != api.OK || len(d.Epochs()) != 0 {
		t.Error("behind Flush there are epochs")
	}
	if !same(d.Image(), sectors("wzc")) || !same(reads(t, d), sectors("wzc")) {
		t.Error("Flush leaves another image")
	}
	write(t, d, "p-q")
	if got := told(t, d.Epochs()); got != "0p2q|" || !same(d.Image(), sectors("wzc")) {
		t.Error("written behind Flush:", got)
	}
}

func TestCopy(t *testing.T) {
	d := disk3(t)
	write(t, d, "x|-y")
	open, was := d.Copy(), d.Image()
	d.Barrier()
	shut := d.Copy()
	for _, x := range []struct {
		d    *disk.Disk
		want string
	}{{open, "0x|1y2z|"}, {shut, "0x|1y|2z|"}, {d, "0x|1y|2z|"}} {
		if x.d.Sectors() != 3 || !same(x.d.Image(), was) || !same(reads(t, x.d), sectors("xyc")) {
			t.Error("a copy has other sectors")
		}
		write(t, x.d, "--z")
		if got := told(t, x.d.Epochs()); got != x.want {
			t.Errorf("a copy's epochs are %s, want %s", got, x.want)
		}
	}
	write(t, open, "pqr")
	if open.Flush() != api.OK || !same(d.Image(), was) || !same(reads(t, d), sectors("xyz")) || told(t, d.Epochs()) != "0x|1y|2z|" {
		t.Error("a copy's writes get to the disk")
	}
	if d.Crash(0, nil, 0) != api.OK || told(t, shut.Epochs()) != "0x|1y|2z|" || !same(reads(t, shut), sectors("xyz")) {
		t.Error("a disk's crash gets to its copy")
	}
}

func TestDiskThatNoCallMade(t *testing.T) {
	for _, d := range []*disk.Disk{nil, {}} {
		b, e := d.Read(0)
		if len(b) != 0 || e != api.ErrNil || d.Write(0, filled(1)) != api.ErrNil || d.Write(-1, nil) != api.ErrNil {
			t.Error("Read, Write", b, e)
		}
		if d.Barrier() != api.ErrNil || d.Flush() != api.ErrNil {
			t.Error("Barrier, Flush")
		}
		if d.Crash(0, nil, 0) != api.ErrNil || d.Crash(-1, []int{1}, -1) != api.ErrNil {
			t.Error("Crash")
		}
		if d.Sectors() != 0 || len(d.Epochs()) != 0 || len(d.Image()) != 0 || d.Copy() != nil {
			t.Error("Sectors, Epochs, Image, Copy")
		}
	}
}
