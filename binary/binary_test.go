package binary_test

import (
	"fmt"
	"math"
	"reflect"
	"slices"
	"strings"
	"testing"

	"dredger/api"
	"dredger/binary"
)

// numbers is a source of the same numbers each time.
type numbers uint64

func (n *numbers) next(below int) int {
	*n = *n*6364136223846793005 + 1442695040888963407
	return int(uint64(*n)>>33) % below
}

// pick is one of a list.
func pick[T any](n *numbers, list ...T) T { return list[n.next(len(list))] }

// at is bytes that are laid at an address; of is a result that is.
func at(addr int, bytes string) api.Copy { return api.Copy{Addr: addr, Ref: -1, Bytes: []byte(bytes)} }
func of(addr, ref, size, value int) api.Copy {
	return api.Copy{Addr: addr, Ref: ref, Size: size, Value: value}
}

func word(ref, value int) api.Word { return api.Word{Ref: ref, Value: value} }

// trim is the same, with nil for empty lists, in memory of its own.
func trim(l []api.Exec) (out []api.Exec) {
	for _, x := range l {
		y := api.Exec{Number: x.Number, Words: append([]api.Word(nil), x.Words...)}
		for _, c := range x.Copies {
			c.Bytes = append([]byte(nil), c.Bytes...)
			y.Copies = append(y.Copies, c)
		}
		out = append(out, y)
	}
	return out
}

// has asks for the bytes of an executed program, and for it of its bytes.
func has(t *testing.T, l []api.Exec, want string) {
	t.Helper()
	before := trim(l)
	b, e := binary.Encode(l)
	if e != api.OK || string(b) != want || !binary.Can(l) {
		t.Errorf("%+v: % x, %v, %v, want % x", l, b, e, binary.Can(l), want)
	}
	m, e := binary.Decode([]byte(want))
	if e != api.OK || !reflect.DeepEqual(trim(m), before) {
		t.Errorf("% x: %+v, %v, want %+v", want, m, e, l)
	}
	if !reflect.DeepEqual(trim(l), before) {
		t.Errorf("%+v was %+v", l, before)
	}
}

// refuses asks for what may not be: no bytes of it, and none of those that it would have are read.
func refuses(t *testing.T, what string, l []api.Exec) {
	t.Helper()
	if b, e := binary.Encode(l); e != api.ErrArg || len(b) != 0 || binary.Can(l) {
		t.Errorf("%s: %.100x, %v, %v", what, b, e, binary.Can(l))
	}
	refusesBytes(t, what, bytesOf(l))
}

// refusesBytes asks for bytes that are not read.
func refusesBytes(t *testing.T, what string, b []byte) {
	t.Helper()
	if m, e := binary.Decode(b); e != api.ErrCode || len(m) != 0 {
		t.Errorf("%s, %.100x: %+v, %v", what, b, m, e)
	}
}

func TestBytes(t *testing.T) {
	has(t, nil, "\x00")
	has(t, []api.Exec{}, "\x00")
	has(t, []api.Exec{{Number: 19}}, "\x01\x13\x00\x00")
	has(t, []api.Exec{{Number: 19, Copies: []api.Copy{}, Words: []api.Word{}}}, "\x01\x13\x00\x00")
	has(t, []api.Exec{{Number: 63, Words: []api.Word{word(-1, 0), word(-1, -1), word(-1, 1), word(-1, 64), word(-1, -65)}}},
		"\x01\x3f\x00\x05\x00\x00\x00\x01\x00\x02\x00\x81\x00\x00\x81\x01")
	has(t, []api.Exec{{Number: 0, Copies: []api.Copy{at(0, "a"), at(4096, "\x00\xff/a")}}},
		"\x01\x00\x02\x00\x00\x01a\xa0\x00\x00\x04\x00\xff/a\x00")
	has(t, []api.Exec{{Number: 1}, {Number: 2, Copies: []api.Copy{at(4104, "abcd"), of(4104, 0, 4, -1)}, Words: []api.Word{word(0, 3), word(-1, 4104)}}},
		"\x02\x01\x00\x00\x02\x02\xa0\x08\x00\x04abcd\xa0\x08\x01\x04\x01\x02\x01\x06\x00\xc0\x10")
}

// lone is a call with one copy, behind three others.
func lone(c api.Copy) []api.Exec {
	return []api.Exec{{}, {}, {}, {Copies: []api.Copy{c}}}
}

// worded is one with one word.
func worded(w api.Word) []api.Exec {
	return []api.Exec{{}, {}, {}, {Words: []api.Word{w}}}
}

// both asks for what may be.
func both(t *testing.T, what string, l []api.Exec) {
	t.Helper()
	before := t.Failed()
	has(t, l, string(bytesOf(l)))
	if t.Failed() && !before {
		t.Errorf("it was %s", what)
	}
}

// TestEdges: each bound that the chapter names is allowed itself, and what lies beyond is not.
func TestEdges(t *testing.T) {
	for _, n := range []int{math.MinInt, -1 << 32, -1, 0, 1, 62, 63, 64, 1 << 32, math.MaxInt} {
		ask := refuses
		if n >= 0 && n <= 63 {
			ask = both
		}
		ask(t, fmt.Sprint("number ", n), []api.Exec{{Number: n}})
	}
	for _, n := range []int{math.MinInt, -1<<60 - 1, -1 << 60, -1, 0, 1, 1 << 60, 1<<60 + 1, 1 << 62, math.MaxInt} {
		ask := refuses
		if n >= -1<<60 && n <= 1<<60 {
			ask = both
		}
		ask(t, fmt.Sprint("value of a word ", n), worded(word(-1, n)))
		ask(t, fmt.Sprint("value of a result ", n), worded(word(2, n)))
		ask(t, fmt.Sprint("value of a copy ", n), lone(of(9, 2, 8, n)))
	}
	for _, n := range []int{math.MinInt, -1, 0, 1, 4096, 1 << 20, 1<<20 + 1, math.MaxInt} {
		ask := refuses
		if n >= 0 && n <= 1<<20 {
			ask = both
		}
		ask(t, fmt.Sprint("address ", n), lone(at(n, "a")))
		ask(t, fmt.Sprint("address of a result ", n), lone(of(n, 1, 2, 3)))
	}
	for _, n := range []int{math.MinInt, -2, -1, 0, 2, 3, 4, math.MaxInt - 1, math.MaxInt} {
		words, copies := refuses, refuses
		if n >= -1 && n < 3 {
			words = both
		}
		if n >= 0 && n < 3 {
			copies = both
		}
		words(t, fmt.Sprint("result ", n), worded(word(n, 5)))
		copies(t, fmt.Sprint("result of a copy ", n), lone(of(9, n, 8, 5)))
	}
	for _, n := range []int{math.MinInt, -8, -1, 0, 1, 2, 3, 4, 5, 6, 7, 8, 9, 16, math.MaxInt} {
		ask := refuses
		if slices.Contains([]int{1, 2, 4, 8}, n) {
			ask = both
		}
		ask(t, fmt.Sprint("size ", n), lone(of(9, 0, n, 5)))
	}
}

// TestCounts: how many calls, copies, words, bytes there may be.
func TestCounts(t *testing.T) {
	for _, n := range []int{0, 1, 63, 64, 65, 200} {
		ask := refuses
		if n <= 64 {
			ask = both
		}
		ask(t, fmt.Sprint(n, " calls"), slices.Repeat([]api.Exec{{Number: 7}}, n))
	}
	for _, n := range []int{0, 1, 399, 400, 401, 1000} {
		ask := refuses
		if n <= 400 {
			ask = both
		}
		many := slices.Repeat([]api.Copy{at(1, "a")}, n)
		ask(t, fmt.Sprint(n, " copies"), []api.Exec{{Number: 7, Copies: many}, {Number: 7, Copies: many}})
	}
	for _, n := range []int{0, 1, 5, 6, 7, 200} {
		ask := refuses
		if n <= 6 {
			ask = both
		}
		many := slices.Repeat([]api.Word{word(-1, 1)}, n)
		ask(t, fmt.Sprint(n, " words"), []api.Exec{{Number: 7, Words: many}, {Number: 7, Words: many}})
	}
	for _, n := range []int{0, 1, 2, 127, 128, 2047, 2048, 2049, 1 << 20} {
		ask := refuses
		if n >= 1 && n <= 2048 {
			ask = both
		}
		ask(t, fmt.Sprint(n, " bytes"), lone(at(4096, strings.Repeat("x", n))))
	}
}

// TestFields: a copy of bytes has neither size nor value, one of a result no bytes. Their bytes would not show it.
func TestFields(t *testing.T) {
	for _, c := range []api.Copy{
		{Addr: 1, Ref: -1, Size: 1, Bytes: []byte("a")},
		{Addr: 1, Ref: -1, Size: -1, Bytes: []byte("a")},
		{Addr: 1, Ref: -1, Value: 1, Bytes: []byte("a")},
		{Addr: 1, Ref: -1, Value: -1, Bytes: []byte("a")},
		{Addr: 1, Ref: 0, Size: 1, Bytes: []byte("a")},
		{Addr: 1, Ref: -2, Size: 1},
		{Addr: 1, Ref: -2, Bytes: []byte("a")},
		{Addr: 1, Ref: -1},
	} {
		if b, e := binary.Encode(lone(c)); e != api.ErrArg || len(b) != 0 || binary.Can(lone(c)) {
			t.Errorf("%+v: % x, %v", c, b, e)
		}
	}
}

// TestPlaces: a result is one of an earlier call, whatever the calls are.
func TestPlaces(t *testing.T) {
	for place := range 5 {
		for ref := range 6 {
			w, c := make([]api.Exec, 5), make([]api.Exec, 5)
			w[place].Words = []api.Word{word(-1, 0), word(ref, 0)}
			c[place].Copies = []api.Copy{at(8, "a"), of(8, ref, 1, 0)}
			ask := refuses
			if ref < place {
				ask = both
			}
			ask(t, fmt.Sprint("a word of ", ref, " at ", place), w)
			ask(t, fmt.Sprint("a copy of ", ref, " at ", place), c)
		}
	}
}

// TestWrongBytes: bytes that no executed program has.
func TestWrongBytes(t *testing.T) {
	for _, s := range []string{
		"", "\x01", "\x01\x13", "\x01\x13\x00", "\x01\x13\x00\x00\x00", "\x00\x00", "\x80", "\x80\x00", "\x80\x01\x13\x00\x00",
		"\x01\x80\x13\x00\x00", "\x01\x13\x80\x00\x00", "\x01\x13\x00\x80\x00",
		"\x41", "\x01\x40\x00\x00", "\x01\x13\x01", "\x01\x13\x00\x01", "\x01\x13\x00\x01\x00",
		"\x01\x13\x00\x01\x01\x00",                                 // a word of the call's own result
		"\x01\x13\x01\x00\x00\x00\x00",                             // a copy of no bytes
		"\x01\x13\x01\x00\x00\x02a\x00",                            // a text that ends too early
		"\xff\xff\xff\xff\xff\xff\xff\xff\x7f",                     // the greatest number of calls
		"\x01\x13\xff\xff\xff\xff\xff\xff\xff\xff\x7f",             // of copies
		"\x01\x13\x00\xff\xff\xff\xff\xff\xff\xff\xff\x7f",         // of words
		"\x01\x13\x01\x00\x00\xff\xff\xff\xff\xff\xff\xff\xff\x7f", // of bytes
		"\x01\x13\x00\x01\x00\xff\xff\xff\xff\xff\xff\xff\xff\x7f", // a value
		"\x01\x13\x00\x01\xff\xff\xff\xff\xff\xff\xff\xff\x7f\x00", // a result
		"\xff\xff\xff\xff\xff\xff\xff\xff\xff\x00",                 // a number too great
	} {
		refusesBytes(t, "wrong", []byte(s))
	}
	refusesBytes(t, "none", nil)
	good := bytesOf(varied())
	for i := range good {
		refusesBytes(t, "the beginning", good[:i])
	}
	for c := range 256 {
		refusesBytes(t, "more", append(slices.Clone(good), byte(c)))
	}
}

// varied is an executed program with a bit of all.
func varied() []api.Exec {
	return []api.Exec{
		{Number: 0, Copies: []api.Copy{at(4096, "/a\x00")}, Words: []api.Word{word(-1, 4096), word(-1, 9)}},
		{Number: 14},
		{Number: 3, Copies: []api.Copy{at(4104, strings.Repeat("\x80", 300)), of(4108, 0, 4, -1), of(4120, 1, 8, 1<<40)}, Words: []api.Word{word(0, -1), word(1, 0), word(-1, -1<<60)}},
		{Number: 63, Copies: []api.Copy{of(1<<20, 2, 1, 0)}},
	}
}
