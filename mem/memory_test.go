package mem_test

import (
	"bytes"
	"testing"

	"dredger/api"
	"dredger/mem"
)

// scrawl writes over a list and the room behind it.
func scrawl(b []byte) {
	b = b[:cap(b)]
	for i := range b {
		b[i] = 0xee
	}
}

func TestArgumentsAreNotKept(t *testing.T) {
	s := mem.New()
	all := []byte("handed in, and room behind")
	b := all[:9]
	s.Out(5000, b)
	mem.Number(b)
	if string(all) != "handed in, and room behind" {
		t.Error("what was handed in was changed")
	}
	scrawl(b)
	if got, _ := s.In(5000, 12); string(got) != "handed in\x00\x00\x00" {
		t.Errorf("what was handed in was kept: %q", got)
	}
}

func TestAnswersAreNew(t *testing.T) {
	s := patterned(t)
	for _, n := range []int{0, 1, 5, 8, 100, api.Memory} {
		x, _ := s.In(api.Base, n)
		y, _ := s.In(api.Base, n)
		scrawl(x)
		if !bytes.Equal(y, pattern()[:n]) || !bytes.Equal(s.Bytes(), pattern()) {
			t.Errorf("In of %d bytes is shared", n)
		}
	}
	x, y := s.Bytes(), s.Bytes()
	scrawl(x)
	if !bytes.Equal(y, pattern()) || !bytes.Equal(s.Bytes(), pattern()) {
		t.Error("Bytes is shared")
	}
	for width := range 9 {
		scrawl(mem.Little(-1, width))
		if !bytes.Equal(mem.Little(-1, width), bytes.Repeat([]byte{255}, width)) {
			t.Errorf("Little of %d bytes is shared", width)
		}
	}
}
