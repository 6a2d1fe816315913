package wire_test

import (
	"bytes"
	"hash/crc32"
	"math"
	"strings"
	"testing"

	"dredger/wire"
)

const (
	least    = -1 << 62
	greatest = 1<<62 - 1
)

// edges has numbers from 0 on at which their form grows, or ends, and their neighbours.
func edges() []int {
	all := []int{0, 1, 63, 64, 300, math.MaxInt - 1, math.MaxInt}
	for shift := 7; shift < 63; shift += 7 {
		all = append(all, 1<<shift-1, 1<<shift, 1<<shift+1)
	}
	for n := 3; n < math.MaxInt/5; n *= 5 {
		all = append(all, n)
	}
	return all
}

func TestPut(t *testing.T) {
	for _, x := range []struct {
		n    int
		want string
	}{
		{0, "\x00"},
		{1, "\x01"},
		{127, "\x7f"},
		{128, "\x81\x00"},
		{300, "\x82\x2c"},
		{16383, "\xff\x7f"},
		{16384, "\x81\x80\x00"},
		{1<<56 - 1, "\xff\xff\xff\xff\xff\xff\xff\x7f"},
		{1 << 56, "\x81\x80\x80\x80\x80\x80\x80\x80\x00"},
		{math.MaxInt, "\xff\xff\xff\xff\xff\xff\xff\xff\x7f"},
		{-1, "\x00"},
		{math.MinInt, "\x00"},
	} {
		if got := wire.Put(nil, x.n); string(got) != x.want {
			t.Errorf("Put(nil, %d) = %x, want %x", x.n, got, x.want)
		}
		if got := wire.Put([]byte("ab"), x.n); string(got) != "ab"+x.want {
			t.Errorf("Put(ab, %d) = %x, want ab and %x", x.n, got, x.want)
		}
	}
}

func TestSigned(t *testing.T) {
	for _, x := range []struct {
		n    int
		want string
	}{
		{0, "\x00"},
		{-1, "\x01"},
		{1, "\x02"},
		{63, "\x7e"},
		{-64, "\x7f"},
		{64, "\x81\x00"},
		{-65, "\x81\x01"},
		{greatest, "\xff\xff\xff\xff\xff\xff\xff\xff\x7e"},
		{greatest + 1, "\xff\xff\xff\xff\xff\xff\xff\xff\x7e"},
		{math.MaxInt, "\xff\xff\xff\xff\xff\xff\xff\xff\x7e"},
		{least, "\xff\xff\xff\xff\xff\xff\xff\xff\x7f"},
		{least - 1, "\xff\xff\xff\xff\xff\xff\xff\xff\x7f"},
		{math.MinInt, "\xff\xff\xff\xff\xff\xff\xff\xff\x7f"},
	} {
		if got := wire.Signed(nil, x.n); string(got) != x.want {
			t.Errorf("Signed(nil, %d) = %x, want %x", x.n, got, x.want)
		}
		if got := wire.Signed([]byte("ab"), x.n); string(got) != "ab"+x.want {
			t.Errorf("Signed(ab, %d) = %x, want ab and %x", x.n, got, x.want)
		}
	}
}

func TestText(t *testing.T) {
	long := strings.Repeat("x", 128)
	for _, x := range []struct{ s, want string }{
		{"", "\x00"},
		{"hey", "\x03hey"},
		{"\x00\xff\x80", "\x03\x00\xff\x80"},
		{long[:127], "\x7f" + long[:127]},
		{long, "\x81\x00" + long},
	} {
		if got := wire.Text(nil, x.s); string(got) != x.want {
			t.Errorf("Text(nil, %q) = %x, want %x", x.s, got, x.want)
		}
		if got := wire.Text([]byte("ab"), x.s); string(got) != "ab"+x.want {
			t.Errorf("Text(ab, %q) = %x, want ab and %x", x.s, got, x.want)
		}
	}
}

func TestSum(t *testing.T) {
	rising := make([]byte, 32)
	for i := range rising {
		rising[i] = byte(i)
	}
	for _, x := range []struct {
		b    []byte
		want uint32
	}{
		{nil, 0},
		{[]byte{}, 0},
		{[]byte("123456789"), 0xe3069283},
		{make([]byte, 32), 0x8a9136aa},
		{bytes.Repeat([]byte{0xff}, 32), 0x62a8ab43},
		{rising, 0x46dd794e},
	} {
		if got := wire.Sum(x.b); got != x.want {
			t.Errorf("Sum(%x) = %08x, want %08x", x.b, got, x.want)
		}
	}
	castagnoli := crc32.MakeTable(crc32.Castagnoli)
	for size := range 300 {
		b := mixed(size)
		if got, want := wire.Sum(b), crc32.Checksum(b, castagnoli); got != want {
			t.Errorf("Sum of %d bytes = %08x, want %08x", size, got, want)
		}
	}
	for c := range 256 {
		if got, want := wire.Sum([]byte{byte(c)}), crc32.Checksum([]byte{byte(c)}, castagnoli); got != want {
			t.Errorf("Sum of the byte %02x = %08x, want %08x", c, got, want)
		}
	}
}

// mixed is bytes without an order that meets the eye; the same ones for each size.
func mixed(size int) []byte {
	b := make([]byte, size)
	x := uint32(size)*2654435761 + 1
	for i := range b {
		x = x*1664525 + 1013904223
		b[i] = byte(x >> 24)
	}
	return b
}

func TestBursts(t *testing.T) {
	turns := [][]byte{{1}, {0x80}, {0xff}}
	for seed := 2; seed < 60; seed++ {
		turn := mixed(seed)[:min(seed, 4)]
		turn[0] |= 1
		turns = append(turns, turn, []byte{turn[0], 0, 0, turn[1]})
	}
	for _, size := range []int{1, 2, 4, 5, 123, 128} {
		b := mixed(size)
		sum := wire.Sum(b)
		for at := range b {
			for _, turn := range turns {
				if at+len(turn) > size {
					continue
				}
				turned := bytes.Clone(b)
				for i, x := range turn {
					turned[at+i] ^= x
				}
				if wire.Sum(turned) == sum {
					t.Fatalf("%d bytes with %x turned at %d have the same sum", size, turn, at)
				}
			}
		}
	}
}

func TestOrder(t *testing.T) {
	all := edges()
	for _, n := range all {
		for _, m := range all {
			if n >= m {
				continue
			}
			a, b := wire.Put(nil, n), wire.Put(nil, m)
			if len(a) > len(b) || len(a) == len(b) && bytes.Compare(a, b) >= 0 {
				t.Errorf("%d is %x, and %d, which is greater, %x", n, a, m, b)
			}
		}
	}
}

// TestPutMemory: what is written stands in new memory, and neither b nor the room behind it is touched.
func TestPutMemory(t *testing.T) {
	for name, put := range map[string]func(b []byte) []byte{
		"Put":    func(b []byte) []byte { return wire.Put(b, 300) },
		"Signed": func(b []byte) []byte { return wire.Signed(b, -300) },
		"Text":   func(b []byte) []byte { return wire.Text(b, "hey") },
		"empty":  func(b []byte) []byte { return wire.Text(b, "") },
	} {
		whole := bytes.Repeat([]byte{'.'}, 64)
		b := whole[:2]
		one, two := put(b), put(b)
		spoil(one)
		if !bytes.Equal(whole, bytes.Repeat([]byte{'.'}, 64)) {
			t.Errorf("%s: what was handed in has changed: %q", name, whole)
		}
		if want := put([]byte("..")); !bytes.Equal(two, want) {
			t.Errorf("%s: two answers share memory: %q, want %q", name, two, want)
		}
		if got, want := put([]byte{}), put(nil); !bytes.Equal(got, want) {
			t.Errorf("%s: of an empty list %x, of nil %x", name, got, want)
		}
	}
	b := []byte("123456789")
	wire.Sum(b)
	if string(b) != "123456789" {
		t.Errorf("Sum has changed what it was handed: %q", b)
	}
}

// spoil writes over a list and over the room behind it.
func spoil(b []byte) {
	b = b[:cap(b)]
	for i := range b {
		b[i] = '!'
	}
}
