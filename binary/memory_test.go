package binary_test

import (
	"reflect"
	"slices"
	"testing"

	"dredger/api"
	"dredger/binary"
)

// scrawl writes over all of a list, its spare room too.
func scrawl[T any](l []T, with T) {
	l = l[:cap(l)]
	for i := range l {
		l[i] = with
	}
}

// lists is functions that write over the lists of an executed program, one each.
func lists(l []api.Exec) (all []func()) {
	for _, x := range l {
		for _, c := range x.Copies {
			all = append(all, func() { scrawl(c.Bytes, 0xee) })
		}
		all = append(all, func() { scrawl(x.Copies, api.Copy{Addr: -99}) }, func() { scrawl(x.Words, word(-99, -99)) })
	}
	return append(all, func() { scrawl(l, api.Exec{Number: -99}) })
}

// TestDecodedIsApart: what is done to one list of an answer neither another list, the bytes nor a later answer can tell.
func TestDecodedIsApart(t *testing.T) {
	b := bytesOf(varied())
	for k := range lists(varied()) {
		l, e := binary.Decode(b)
		if e != api.OK {
			t.Fatal(e)
		}
		lists(l)[k]()
		marred := trim(varied())
		lists(marred)[k]()
		if !reflect.DeepEqual(trim(l), trim(marred)) {
			t.Errorf("list %d: %+v, want %+v", k, l, marred)
		}
		if !slices.Equal(b, bytesOf(varied())) {
			t.Fatalf("list %d: the bytes are % x", k, b)
		}
	}
	l, _ := binary.Decode(b)
	scrawl(b, 0xdd)
	if !reflect.DeepEqual(trim(l), varied()) {
		t.Errorf("the bytes are kept: %+v", l)
	}
}

// TestEncodedIsApart: likewise of bytes.
func TestEncodedIsApart(t *testing.T) {
	l := varied()
	b, _ := binary.Encode(l)
	c, _ := binary.Encode(l)
	scrawl(b, 0xee)
	if !reflect.DeepEqual(l, varied()) || !slices.Equal(c, bytesOf(varied())) {
		t.Errorf("%+v, % x", l, c)
	}
	for _, spoil := range lists(l) {
		spoil()
	}
	if !slices.Equal(c, bytesOf(varied())) {
		t.Errorf("the program is kept: % x", c)
	}
}

// TestRoom: the room behind the lists' ends is neither read nor written.
func TestRoom(t *testing.T) {
	copies := []api.Copy{at(1, "ab"), at(-7, "kept")}
	words := []api.Word{word(-1, 1), word(-7, -7)}
	bytes := []byte("abKEPT")
	copies[0].Bytes = bytes[:2]
	all := []api.Exec{{Number: 1, Copies: copies[:1], Words: words[:1]}, {Number: -7}}
	has(t, all[:1], "\x01\x01\x01\x01\x00\x02ab\x01\x00\x02")
	if string(bytes) != "abKEPT" || copies[1].Addr != -7 || words[1].Ref != -7 || all[1].Number != -7 {
		t.Error(all, copies, words, bytes)
	}
	b := []byte("\x01\x13\x00\x00KEPT")
	if l, e := binary.Decode(b[:4]); e != api.OK || len(l) != 1 || string(b[4:]) != "KEPT" {
		t.Error(l, e, b)
	}
}
