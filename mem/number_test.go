package mem_test

import (
	"bytes"
	"math"
	"testing"

	"dredger/mem"
)

func TestLittle(t *testing.T) {
	for _, x := range []struct {
		n, width int
		want     string
	}{
		{513, 2, "\x01\x02"},
		{513, 1, "\x01"},
		{513, 0, ""},
		{513, -1, ""},
		{513, math.MinInt, ""},
		{513, 4, "\x01\x02\x00\x00"},
		{513, 8, "\x01\x02\x00\x00\x00\x00\x00\x00"},
		{513, 9, "\x01\x02\x00\x00\x00\x00\x00\x00"},
		{513, math.MaxInt, "\x01\x02\x00\x00\x00\x00\x00\x00"},
		{0, 3, "\x00\x00\x00"},
		{0x0102030405060708, 8, "\x08\x07\x06\x05\x04\x03\x02\x01"},
		{0x0102030405060708, 7, "\x08\x07\x06\x05\x04\x03\x02"},
		{0x0102030405060708, 3, "\x08\x07\x06"},
		{-1, 1, "\xff"},
		{-2, 2, "\xfe\xff"},
		{-2, 8, "\xfe\xff\xff\xff\xff\xff\xff\xff"},
		{-2, 9, "\xfe\xff\xff\xff\xff\xff\xff\xff"},
		{-2, 0, ""},
		{math.MinInt, 8, "\x00\x00\x00\x00\x00\x00\x00\x80"},
		{math.MinInt, 7, "\x00\x00\x00\x00\x00\x00\x00"},
		{math.MaxInt, 8, "\xff\xff\xff\xff\xff\xff\xff\x7f"},
	} {
		if got := mem.Little(x.n, x.width); string(got) != x.want {
			t.Errorf("Little(%d, %d): %q, want %q", x.n, x.width, got, x.want)
		}
	}
}

func TestNumber(t *testing.T) {
	for b, want := range map[string]int{
		"":                                     0,
		"\x07":                                 7,
		"\xff":                                 255,
		"\x01\x02":                             0x0201,
		"\x01\x02\x03":                         0x030201,
		"\x01\x02\x03\x04":                     0x04030201,
		"\x01\x02\x03\x04\x05":                 0x0504030201,
		"\x01\x02\x03\x04\x05\x06":             0x060504030201,
		"\x01\x02\x03\x04\x05\x06\x07":         0x07060504030201,
		"\x01\x02\x03\x04\x05\x06\x07\x08":     0x0807060504030201,
		"\x01\x02\x03\x04\x05\x06\x07\x08\x09": 0x0807060504030201,
		"\x01\x02\x03\x04\x05\x06\x07\x08\xff\xff": 0x0807060504030201,
		"\xff\xff\xff\xff\xff\xff\xff":             1<<56 - 1,
		"\xff\xff\xff\xff\xff\xff\xff\x7f":         math.MaxInt,
		"\xff\xff\xff\xff\xff\xff\xff\xff":         -1,
		"\xfe\xff\xff\xff\xff\xff\xff\xff\x00":     -2,
		"\x00\x00\x00\x00\x00\x00\x00\x80":         math.MinInt,
	} {
		if got := mem.Number([]byte(b)); got != want {
			t.Errorf("Number(%q): %d, want %d", b, got, want)
		}
	}
	if mem.Number(nil) != 0 || mem.Number(bytes.Repeat([]byte{1}, 1<<20)) != 0x0101010101010101 {
		t.Error("Number of nil, or of a long list")
	}
}

// TestThereAndBack: the number of a number that goes into its width is that number.
func TestThereAndBack(t *testing.T) {
	for width := range 9 {
		most := math.MaxInt
		if width < 8 {
			most = 1<<(8*width) - 1
		}
		for _, n := range []int{0, 1, most / 3, most / 2, most - 1, most} {
			if n < 0 || n > most {
				continue
			}
			b := mem.Little(n, width)
			if got := mem.Number(b); len(b) != width || got != n {
				t.Errorf("%d in %d bytes is read as %d", n, width, got)
			}
		}
	}
	for _, n := range []int{-1, -256, math.MinInt, math.MinInt + 1} {
		for _, width := range []int{8, 9, math.MaxInt} {
			if got := mem.Number(mem.Little(n, width)); got != n {
				t.Errorf("%d in %d bytes is read as %d", n, width, got)
			}
		}
	}
}
