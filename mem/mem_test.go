package mem_test

import (
	"bytes"
	"math"
	"math/big"
	"strings"
	"testing"

	"dredger/api"
	"dredger/mem"
)

const end = api.Base + api.Memory

// pattern is a byte for each place of a space, none of them a nought, and no two neighbours the same.
func pattern() []byte {
	b := make([]byte, api.Memory)
	for i := range b {
		b[i] = byte(1 + i*7%255)
	}
	return b
}

// patterned is a space of the pattern.
func patterned(t *testing.T) *mem.Space {
	t.Helper()
	s := mem.New()
	if e := s.Out(api.Base, pattern()); e != 0 {
		t.Fatal(e)
	}
	return s
}

// isPart is the chapter's words, with numbers that don't overflow.
func isPart(addr, n int) bool {
	from := big.NewInt(int64(addr))
	to := new(big.Int).Add(from, big.NewInt(int64(n)))
	return n >= 0 && from.Cmp(big.NewInt(api.Base)) >= 0 && to.Cmp(big.NewInt(end)) <= 0
}

func addresses() []int {
	return []int{
		math.MinInt, math.MinInt + api.Base, -1, 0, 1, api.Memory, api.Base - 1, api.Base, api.Base + 1, api.Base + 1000,
		end - 2, end - 1, end, end + 1, 2 * end, math.MaxInt - end, math.MaxInt - 1, math.MaxInt,
	}
}

func counts() []int {
	return []int{
		math.MinInt, math.MinInt + end, -end, -api.Base, -2, -1, 0, 1, 2, 3, 1047, 1048, 1049, api.Memory - 1, api.Memory, api.Memory + 1,
		api.Base, end, math.MaxInt - end, math.MaxInt - api.Base, math.MaxInt - api.Base + 1, math.MaxInt - 1, math.MaxInt,
	}
}

func TestNew(t *testing.T) {
	s := mem.New()
	if !bytes.Equal(s.Bytes(), make([]byte, api.Memory)) {
		t.Error("a new space has not only noughts, or not as many")
	}
	if b, e := s.In(api.Base, api.Memory); e != 0 || !bytes.Equal(b, make([]byte, api.Memory)) {
		t.Error("a new space, read:", e)
	}
}

func TestIn(t *testing.T) {
	s, all := patterned(t), pattern()
	for _, addr := range addresses() {
		for _, n := range counts() {
			b, e := s.In(addr, n)
			if !isPart(addr, n) {
				if len(b) != 0 || e != api.EFAULT {
					t.Errorf("In(%d, %d), which is no part: %d bytes, %v", addr, n, len(b), e)
				}
				continue
			}
			if e != 0 || !bytes.Equal(b, all[addr-api.Base:][:n]) {
				t.Errorf("In(%d, %d): %d bytes, %v", addr, n, len(b), e)
			}
		}
	}
	if !bytes.Equal(s.Bytes(), all) {
		t.Error("In has changed something")
	}
}

func TestOut(t *testing.T) {
	for _, addr := range addresses() {
		for _, n := range counts() {
			if n < 0 || n > end {
				continue
			}
			s, want := patterned(t), pattern()
			b := bytes.Repeat([]byte{0, 255}, n)[:n]
			e := s.Out(addr, b)
			if !isPart(addr, n) {
				if e != api.EFAULT || !bytes.Equal(s.Bytes(), want) {
					t.Errorf("Out(%d, %d bytes), which are no part: %v, or it has changed something", addr, n, e)
				}
				continue
			}
			copy(want[addr-api.Base:], b)
			if e != 0 || !bytes.Equal(s.Bytes(), want) {
				t.Errorf("Out(%d, %d bytes): %v, or they are not there", addr, n, e)
			}
		}
	}
}

func TestOutOfNothing(t *testing.T) {
	for _, b := range [][]byte{nil, {}} {
		for addr, want := range map[int]api.Err{api.Base - 1: api.EFAULT, api.Base: 0, end - 1: 0, end: 0, end + 1: api.EFAULT, -1: api.EFAULT, math.MaxInt: api.EFAULT} {
			s := patterned(t)
			if e := s.Out(addr, b); e != want || !bytes.Equal(s.Bytes(), pattern()) {
				t.Errorf("Out(%d) of nothing: %v, want %v", addr, e, want)
			}
		}
	}
}

func TestPath(t *testing.T) {
	longest := strings.Repeat("p", api.MaxPath)
	for _, x := range []struct {
		what, text string // the text stands at addr; all else is x, which is no nought
		addr       int
		want       string
		err        api.Err
	}{
		{"an example", "/a\x00", api.Base, "/a", 0},
		{"an empty one", "\x00", api.Base, "", 0},
		{"an empty one at the end", "\x00", end - 1, "", 0},
		{"up to the first nought", "/a\x00/b\x00", 5000, "/a", 0},
		{"any bytes", "\x01\xff\x80/\x00", 5000, "\x01\xff\x80/", 0},
		{"the longest", longest + "\x00", 5000, longest, 0},
		{"the longest at the end", longest + "\x00", end - api.MaxPath - 1, longest, 0},
		{"the longest without a nought", longest, end - api.MaxPath, "", api.EFAULT},
		{"one more", longest + "p\x00", 5000, "", api.ENAME},
		{"one more at the end", longest + "p\x00", end - api.MaxPath - 2, "", api.ENAME},
		{"one more without a nought", longest + "p", end - api.MaxPath - 1, "", api.EFAULT},
		{"much more", strings.Repeat("p", 500) + "\x00", 5000, "", api.ENAME},
		{"much more at the end", strings.Repeat("p", 500) + "\x00", end - 501, "", api.ENAME},
		{"all but the last byte", strings.Repeat("p", api.Memory-1) + "\x00", api.Base, "", api.ENAME},
		{"a space without a nought", "p", api.Base, "", api.EFAULT},
		{"a last byte that is none", "p", end - 1, "", api.EFAULT},
	} {
		s := mem.New()
		all := bytes.Repeat([]byte{'x'}, api.Memory)
		copy(all[x.addr-api.Base:], x.text)
		s.Out(api.Base, all)
		if p, e := s.Path(x.addr); p != x.want || e != x.err {
			t.Errorf("%s: %q, %v, want %q, %v", x.what, p, e, x.want, x.err)
		}
		if !bytes.Equal(s.Bytes(), all) {
			t.Errorf("%s: Path has changed something", x.what)
		}
	}
}

func TestPathOutside(t *testing.T) {
	s := mem.New()
	for _, addr := range addresses() {
		want := api.EFAULT
		if addr >= api.Base && addr < end {
			want = 0
		}
		if p, e := s.Path(addr); p != "" || e != want {
			t.Errorf("Path(%d): %q, %v, want %v", addr, p, e, want)
		}
	}
}

func TestCopy(t *testing.T) {
	s := patterned(t)
	c := s.Copy()
	if c == s || !bytes.Equal(c.Bytes(), pattern()) {
		t.Fatal("a copy has something else, or is the same")
	}
	c.Out(api.Base, []byte{0})
	if !bytes.Equal(s.Bytes(), pattern()) {
		t.Error("what was put into a copy is in the first")
	}
	s.Out(end-1, []byte{0})
	want := pattern()
	want[0] = 0
	if !bytes.Equal(c.Bytes(), want) || !bytes.Equal(c.Copy().Bytes(), want) {
		t.Error("what was put into the first is in its copy")
	}
}

func TestObjects(t *testing.T) {
	for what, s := range map[string]*mem.Space{"nil": nil, "a plain one": {}} {
		if s.Copy() != nil || len(s.Bytes()) != 0 {
			t.Errorf("%s: Copy, or Bytes", what)
		}
		for _, addr := range addresses() {
			if b, e := s.In(addr, 1); len(b) != 0 || e != api.EINVAL {
				t.Errorf("%s: In(%d): %v, %v", what, addr, b, e)
			}
			if b, e := s.In(addr, -1); len(b) != 0 || e != api.EINVAL {
				t.Errorf("%s: In(%d, -1): %v, %v", what, addr, b, e)
			}
			if e := s.Out(addr, []byte("x")); e != api.EINVAL {
				t.Errorf("%s: Out(%d): %v", what, addr, e)
			}
			if p, e := s.Path(addr); p != "" || e != api.EINVAL {
				t.Errorf("%s: Path(%d): %q, %v", what, addr, p, e)
			}
		}
		if s.Copy() != nil || len(s.Bytes()) != 0 {
			t.Errorf("%s: there is something behind Out", what)
		}
	}
}

// numbers is a source of the same numbers each time.
type numbers uint64

func (n *numbers) next(below int) int {
	*n = *n*6364136223846793005 + 1442695040888963407
	return int(uint64(*n)>>33) % below
}

// TestInTellsOut: what In tells is what Out told last, byte by byte.
func TestInTellsOut(t *testing.T) {
	source := numbers(5)
	s := mem.New()
	last := map[int]byte{}
	for range 3000 {
		b := make([]byte, source.next(60))
		for i := range b {
			b[i] = byte(source.next(256))
		}
		addr := api.Base - 30 + source.next(api.Memory+60)
		if s.Out(addr, b) == 0 {
			for i, c := range b {
				last[addr+i] = c
			}
		}
		addr, n := api.Base+source.next(api.Memory), source.next(90)
		got, e := s.In(addr, n)
		if want := isPart(addr, n); want != (e == 0) {
			t.Fatalf("In(%d, %d): %v", addr, n, e)
		}
		for i, c := range got {
			if c != last[addr+i] {
				t.Fatalf("at %d is %d, and %d was told", addr+i, c, last[addr+i])
			}
		}
	}
}
