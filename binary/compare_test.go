package binary_test

import (
	"math"
	"reflect"
	"slices"
	"strings"
	"testing"

	"dredger/api"
	"dredger/binary"
	"dredger/layout"
	"dredger/prog"
	"dredger/types"
)

// maker makes executed programs, with a slip now and then.
type maker struct {
	*numbers
	slips int // in how many of a thousand choices it slips
}

// number is one of a few, or, of a slip, any.
func (m maker) number(usual ...int) int {
	if m.next(1000) < m.slips {
		return pick(m.numbers, -2, -1, 0, 3, 5, 8, 64, 127, 128, 1<<20, 1<<20+1, 1<<60+1, -1<<60-1, 1<<62, math.MaxInt, math.MinInt)
	}
	return pick(m.numbers, usual...)
}

func (m maker) copied(place int) api.Copy {
	addr := m.number(0, 1, 127, 128, 4096, 4104, 1<<20, m.next(1<<20))
	if place == 0 || m.next(2) == 0 {
		size := m.number(1, 2, 3, 127, 128, m.next(300)+1, 2048)
		bytes := strings.Repeat(pick(m.numbers, "a", "\x00", "\x80"), max(0, min(size, 2049)))
		return api.Copy{Addr: addr, Ref: m.number(-1), Size: m.number(0), Value: m.number(0), Bytes: []byte(bytes)}
	}
	c := of(addr, m.number(m.next(place), place-1), m.number(1, 2, 4, 8), m.value())
	if m.number(0) != 0 {
		c.Bytes = []byte("x")
	}
	return c
}

func (m maker) value() int {
	return m.number(0, 1, -1, 63, 64, -64, -65, 4096, 1<<31, -1<<31, 1<<60, -1<<60, m.next(1<<30)-1<<29)
}

func (m maker) program() (l []api.Exec) {
	for place := range pick(m.numbers, m.next(4), m.next(10), m.next(66)) {
		x := api.Exec{Number: m.number(0, 1, 63, m.next(64))}
		for range pick(m.numbers, 0, 1, m.next(5)) {
			x.Copies = append(x.Copies, m.copied(place))
		}
		for range m.number(0, 1, 2, 6) & 7 {
			x.Words = append(x.Words, word(m.number(-1, m.next(place+1)-1), m.value()))
		}
		l = append(l, x)
	}
	return l
}

// compare asks whether all calls tell what the model does.
func compare(t *testing.T, l []api.Exec) bool {
	t.Helper()
	before := trim(l)
	ok := mayBe(l)
	b, e := binary.Encode(l)
	if binary.Can(l) != ok || ok != (e == api.OK) || !ok && (e != api.ErrArg || len(b) != 0) {
		t.Fatalf("%+v: %v, %v, want %v", l, binary.Can(l), e, ok)
	}
	if ok && string(b) != string(bytesOf(l)) {
		t.Fatalf("%+v: % x, want % x", l, b, bytesOf(l))
	}
	if ok {
		if m, e := binary.Decode(b); e != api.OK || !reflect.DeepEqual(trim(m), before) {
			t.Fatalf("%+v is read as %+v, %v", l, m, e)
		}
	}
	if !reflect.DeepEqual(trim(l), before) {
		t.Fatalf("%+v was %+v", l, before)
	}
	return ok
}

// compareBytes asks whether bytes are read as the model reads them.
func compareBytes(t *testing.T, b []byte) bool {
	t.Helper()
	before := slices.Clone(b)
	want, ok := programOf(b)
	l, e := binary.Decode(b)
	if ok != (e == api.OK) || !ok && (e != api.ErrCode || len(l) != 0) || ok && !reflect.DeepEqual(trim(l), trim(want)) {
		t.Fatalf("% x: %+v, %v, want %+v, %v", b, l, e, want, ok)
	}
	if ok {
		if again, e := binary.Encode(l); e != api.OK || string(again) != string(b) {
			t.Fatalf("% x, written again: % x, %v", b, again, e)
		}
	}
	if !slices.Equal(b, before) {
		t.Fatalf("% x was % x", b, before)
	}
	return ok
}

func TestCompare(t *testing.T) {
	n := numbers(1)
	met := map[bool]int{}
	for i := range 20000 {
		m := maker{&n, []int{0, 5, 40}[i%3]}
		met[compare(t, m.program())]++
	}
	if met[true] < 8000 || met[false] < 5000 {
		t.Error(met)
	}
}

// TestCompareBytes: bytes of programs, of which some are changed, taken out or put in.
func TestCompareBytes(t *testing.T) {
	n := numbers(2)
	met := map[bool]int{}
	for range 40000 {
		m := maker{&n, n.next(2) * 10}
		b := bytesOf(m.program())
		b = b[:min(len(b), 5000)]
		for range n.next(4) {
			at := n.next(len(b) + 1)
			c := pick(&n, 0, 1, 2, 8, 127, 128, 129, 255, byte(n.next(256)))
			switch n.next(3) {
			case 0:
				b = slices.Insert(b, at, c)
			case 1:
				b = slices.Delete(b, min(at, len(b)), min(at+n.next(3), len(b)))
			case 2:
				b[min(at, len(b)-1)] = c
			}
			if len(b) == 0 {
				break
			}
		}
		met[compareBytes(t, b)]++
	}
	if met[true] < 8000 || met[false] < 8000 {
		t.Error(met)
	}
}

// TestShortBytes: all bytes of up to eight of some.
func TestShortBytes(t *testing.T) {
	some := []byte{0, 1, 2, 64, 128}
	met := 0
	var longer func(b []byte)
	longer = func(b []byte) {
		if compareBytes(t, b) {
			met++
		}
		if len(b) == 8 {
			return
		}
		for _, c := range some {
			longer(append(slices.Clone(b), c))
		}
	}
	longer(nil)
	if met < 50 {
		t.Error(met)
	}
}

// TestGreatest: as much as there may be of all.
func TestGreatest(t *testing.T) {
	long := strings.Repeat("z", 2048)
	var l []api.Exec
	for range 64 {
		l = append(l, api.Exec{Number: 63, Copies: slices.Repeat([]api.Copy{at(1<<20, long)}, 400), Words: slices.Repeat([]api.Word{word(-1, -1<<60)}, 6)})
	}
	b, e := binary.Encode(l)
	if e != api.OK || len(b) != 1+64*(1+2+400*(3+1+2+2048)+1+6*(1+9)) {
		t.Fatal(len(b), e)
	}
	m, e := binary.Decode(b)
	if e != api.OK || len(m) != 64 || !reflect.DeepEqual(m[63], l[63]) {
		t.Fatal(len(m), e)
	}
}

// TestLaid: what programs of a table are laid out to is read as it was (P2).
func TestLaid(t *testing.T) {
	x, err := types.Compile("resource fd[int32]: -1, 0\ncall make(1)(p ptr[in, text[\"/a\", \"/b\"]]) fd\ncall use(2)(r fd, p ptr[inout, s], n len[p, int32])\nstruct s { r fd, d data[0, 9], q fd }")
	if err != nil {
		t.Fatal(err)
	}
	n := numbers(3)
	for range 2000 {
		var p api.Program
		for range n.next(20) {
			s := api.Step{Call: n.next(2)}
			for _, ty := range x.Calls[s.Call].Args {
				a, _ := prog.Default(x, ty)
				s.Args = append(s.Args, a)
			}
			if s.Call == 1 {
				kids := s.Args[1].Kids[0].Kids
				kids[1].Bytes = make([]byte, n.next(10))
				for i, q := range p {
					if q.Call == 0 && n.next(3) == 0 {
						*pick(&n, &s.Args[0], &kids[0], &kids[2]) = api.Arg{Kind: api.ArgRef, Value: i}
					}
				}
			}
			p = append(p, s)
		}
		p, e := layout.Fix(x, p)
		if e != api.OK {
			t.Fatal(e)
		}
		l, e := layout.Lay(x, p)
		if e != api.OK {
			t.Fatal(e)
		}
		if !compare(t, l) {
			t.Fatalf("%+v may not be", l)
		}
	}
}
