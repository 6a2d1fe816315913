package wire_test

import (
	"bytes"
	"math"
	"strings"
	"testing"

	"dredger/api"
	"dredger/wire"
)

func TestUint(t *testing.T) {
	ff := strings.Repeat("\xff", 12)
	for _, x := range []struct {
		b    string
		n    int
		e    api.Errno
		left int
	}{
		{"\x00", 0, api.OK, 0},
		{"\x7f", 127, api.OK, 0},
		{"\x81\x00", 128, api.OK, 0},
		{"\x82\x2c", 300, api.OK, 0},
		{"\x82\x2c\x80", 300, api.OK, 1},
		{"\x81\x80\x00z", 16384, api.OK, 1},
		{ff[:8] + "\x7f", math.MaxInt, api.OK, 0},
		{ff[:8] + "\x7f\x80", math.MaxInt, api.OK, 1},
		{"\x80", 0, api.ErrForm, 1},
		{"\x80\x00", 0, api.ErrForm, 2},
		{"\x80" + ff, 0, api.ErrForm, 13},
		{"", 0, api.ErrShort, 0},
		{"\x81", 0, api.ErrShort, 1},
		{ff[:8], 0, api.ErrShort, 8},
		{ff[:9], 0, api.ErrRange, 9},
		{ff[:9] + "\x01", 0, api.ErrRange, 10},
		{"\x81" + strings.Repeat("\x80", 8) + "\x00", 0, api.ErrRange, 10},
		{ff, 0, api.ErrRange, 12},
	} {
		r := wire.Over([]byte(x.b))
		if n, e := r.Uint(); n != x.n || e != x.e || r.Left() != x.left {
			t.Errorf("Uint of %x: %d, %v, %d left; want %d, %v, %d left", x.b, n, e, r.Left(), x.n, x.e, x.left)
		}
	}
}

func TestSignedRead(t *testing.T) {
	ff := strings.Repeat("\xff", 9)
	for _, x := range []struct {
		b    string
		n    int
		e    api.Errno
		left int
	}{
		{"\x00", 0, api.OK, 0},
		{"\x01", -1, api.OK, 0},
		{"\x02", 1, api.OK, 0},
		{"\x7f!", -64, api.OK, 1},
		{"\x81\x00", 64, api.OK, 0},
		{ff[:8] + "\x7e", greatest, api.OK, 0},
		{ff[:8] + "\x7f", least, api.OK, 0},
		{"\x80\x01", 0, api.ErrForm, 2},
		{"\xff", 0, api.ErrShort, 1},
		{"", 0, api.ErrShort, 0},
		{ff, 0, api.ErrRange, 9},
	} {
		r := wire.Over([]byte(x.b))
		if n, e := r.Signed(); n != x.n || e != x.e || r.Left() != x.left {
			t.Errorf("Signed of %x: %d, %v, %d left; want %d, %v, %d left", x.b, n, e, r.Left(), x.n, x.e, x.left)
		}
	}
}

func TestTextRead(t *testing.T) {
	ff := strings.Repeat("\xff", 9)
	for _, x := range []struct {
		b    string
		most int
		s    string
		e    api.Errno
		left int
	}{
		{"\x00", 0, "", api.OK, 0},
		{"\x00", -1, "", api.OK, 0},
		{"\x00", math.MinInt, "", api.OK, 0},
		{"\x00z", 5, "", api.OK, 1},
		{"\x03hey", 3, "hey", api.OK, 0},
		{"\x03heyho", math.MaxInt, "hey", api.OK, 2},
		{"\x02\x80\xff", 2, "\x80\xff", api.OK, 0},
		{"\x03hey", 2, "", api.ErrLong, 4},
		{"\x03h", 2, "", api.ErrLong, 2},
		{"\x01h", 0, "", api.ErrLong, 2},
		{"\x01h", -1, "", api.ErrLong, 2},
		{"\x03he", 3, "", api.ErrShort, 3},
		{"\x01", 9, "", api.ErrShort, 1},
		{ff[:8] + "\x7fhey", math.MaxInt - 1, "", api.ErrLong, 12},
		{ff[:8] + "\x7fhey", math.MaxInt, "", api.ErrShort, 12},
		{"", 9, "", api.ErrShort, 0},
		{"\x81", -1, "", api.ErrShort, 1},
		{"\x80\x00", 9, "", api.ErrForm, 2},
		{ff, 9, "", api.ErrRange, 9},
	} {
		r := wire.Over([]byte(x.b))
		if s, e := r.Text(x.most); s != x.s || e != x.e || r.Left() != x.left {
			t.Errorf("Text(%d) of %x: %q, %v, %d left; want %q, %v, %d left", x.most, x.b, s, e, r.Left(), x.s, x.e, x.left)
		}
	}
}

func TestByte(t *testing.T) {
	r := wire.Over([]byte{0x80, 0, 0xff})
	for i, want := range []byte{0x80, 0, 0xff} {
		if r.End() != api.ErrMore || r.Left() != 3-i {
			t.Errorf("ahead of byte %d: End %v, Left %d", i, r.End(), r.Left())
		}
		if b, e := r.Byte(); b != want || e != api.OK {
			t.Errorf("byte %d: %02x, %v", i, b, e)
		}
	}
	if b, e := r.Byte(); b != 0 || e != api.ErrShort || r.End() != api.OK || r.Left() != 0 {
		t.Errorf("behind the end: %02x, %v, End %v, Left %d", b, e, r.End(), r.Left())
	}
}

// TestStays: behind an error the reader stands where it stood, and other calls go on from there.
func TestStays(t *testing.T) {
	r := wire.Over([]byte("\x05\x80\x03hey"))
	if n, e := r.Uint(); n != 5 || e != api.OK {
		t.Fatal(n, e)
	}
	for range 2 {
		if _, e := r.Uint(); e != api.ErrForm {
			t.Fatal(e)
		}
		if _, e := r.Signed(); e != api.ErrForm {
			t.Fatal(e)
		}
		if _, e := r.Text(9); e != api.ErrForm {
			t.Fatal(e)
		}
		if r.Left() != 5 {
			t.Fatal(r.Left())
		}
	}
	if b, e := r.Byte(); b != 0x80 || e != api.OK {
		t.Fatal(b, e)
	}
	if _, e := r.Text(2); e != api.ErrLong || r.Left() != 4 {
		t.Fatal(e, r.Left())
	}
	if s, e := r.Text(3); s != "hey" || e != api.OK || r.End() != api.OK {
		t.Fatal(s, e)
	}
}

func TestEmpty(t *testing.T) {
	for _, b := range [][]byte{nil, {}} {
		r := wire.Over(b)
		if r == nil || r.End() != api.OK || r.Left() != 0 {
			t.Errorf("a reader of nothing: %v", r)
		}
	}
}

func TestThereAndBack(t *testing.T) {
	var whole []int
	for _, n := range edges() {
		half := n / 2
		whole = append(whole, half, -half, -half-1)
	}
	for _, behind := range []string{"", "\x00", "\x80", "\xff", "abc"} {
		for _, n := range edges() {
			r := wire.Over(append(wire.Put(nil, n), behind...))
			if m, e := r.Uint(); m != n || e != api.OK || r.Left() != len(behind) {
				t.Errorf("%d, with %x behind: %d, %v, %d left", n, behind, m, e, r.Left())
			}
		}
		for _, n := range whole {
			r := wire.Over(append(wire.Signed(nil, n), behind...))
			if m, e := r.Signed(); m != n || e != api.OK || r.Left() != len(behind) {
				t.Errorf("whole %d, with %x behind: %d, %v, %d left", n, behind, m, e, r.Left())
			}
		}
		for size := range 300 {
			s := string(mixed(size))
			r := wire.Over(append(wire.Text(nil, s), behind...))
			if got, e := r.Text(size); got != s || e != api.OK || r.Left() != len(behind) {
				t.Errorf("text of %d bytes, with %x behind: %v, %d left", size, behind, e, r.Left())
			}
		}
	}
}

// TestOneForm: whatever is read as a number, or as a whole one, is written as the bytes that were read.
func TestOneForm(t *testing.T) {
	look := func(b []byte) {
		r := wire.Over(b)
		if n, e := r.Uint(); e == api.OK {
			if got := wire.Put(nil, n); !bytes.Equal(got, b[:len(b)-r.Left()]) {
				t.Errorf("%x is read as %d, which is %x", b, n, got)
			}
		}
		r = wire.Over(b)
		if n, e := r.Signed(); e == api.OK {
			if got := wire.Signed(nil, n); !bytes.Equal(got, b[:len(b)-r.Left()]) {
				t.Errorf("%x is read as whole %d, which is %x", b, n, got)
			}
		}
	}
	for i := range 1 << 16 {
		look([]byte{byte(i >> 8), byte(i)})
	}
	for size := range 600 {
		for high := range 11 {
			b := mixed(size + 20)[size:]
			for i := range high {
				b[i] |= 0x80
			}
			look(b[:11])
		}
	}
}

// TestReaderMemory: a reader has a copy of its own, and leaves what it was handed as it was.
func TestReaderMemory(t *testing.T) {
	b := []byte("\x03hey\x07\x05")
	was := bytes.Clone(b)
	r := wire.Over(b)
	s, _ := r.Text(9)
	if !bytes.Equal(b, was) {
		t.Errorf("a reader has changed what it was handed: %x", b)
	}
	spoil(b)
	if n, e := r.Uint(); n != 7 || e != api.OK || s != "hey" {
		t.Errorf("a reader has kept what it was handed: %q, %d, %v", s, n, e)
	}
	if n, e := r.Byte(); n != 5 || e != api.OK {
		t.Errorf("a reader has kept what it was handed: %d, %v", n, e)
	}
	whole := []byte("\x01ab")
	part := wire.Over(whole[:1])
	if _, e := part.Text(9); e != api.ErrShort || part.Left() != 1 {
		t.Errorf("a reader reads behind the end of its bytes: %v", e)
	}
}

func TestReaderThatNoCallMade(t *testing.T) {
	for _, r := range []*wire.Reader{nil, {}} {
		n, e := r.Uint()
		m, f := r.Signed()
		b, g := r.Byte()
		s, h := r.Text(9)
		if n != 0 || m != 0 || b != 0 || s != "" {
			t.Error(n, m, b, s)
		}
		if e != api.ErrNil || f != api.ErrNil || g != api.ErrNil || h != api.ErrNil || r.End() != api.ErrNil {
			t.Error(e, f, g, h, r.End())
		}
		if r.Left() != 0 {
			t.Error(r.Left())
		}
	}
}
