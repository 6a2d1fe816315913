package run_test

import (
	"reflect"
	"slices"
	"testing"

	"dredger/api"
	"dredger/binary"
	"dredger/run"
	"dredger/types"
)

// scrawl writes over all of a list, its spare room too.
func scrawl[T any](l []T, with T) {
	l = l[:cap(l)]
	for i := range l {
		l[i] = with
	}
}

// rooms is an executed program whose lists have spare room, which is neither to be read nor to be written.
func rooms() []api.Exec {
	first := open("/a")
	first.Copies[0].Bytes = append(first.Copies[0].Bytes, "KEPT"...)[:3]
	first.Copies = append(first.Copies, at(path, "/zzz"))[:1]
	first.Words = append(first.Words, api.Word{Ref: -1, Value: -77})[:2]
	second := with(word(call(api.CallSeek, 9, 5, 0), 0, 0), of(space, 0, 4, 1))
	second.Words = append(second.Words, api.Word{Ref: -1, Value: -77})[:3]
	l := []api.Exec{first, second, fork(), call(api.CallWait, space), getpid(), call(99)}
	return l[:5]
}

// whole is a list with its spare room, as far as rooms fills it.
func whole(l []api.Exec) []api.Exec {
	out := slices.Clone(l[:6])
	out[0].Copies = slices.Clone(out[0].Copies[:2])
	out[0].Copies[0].Bytes = slices.Clone(out[0].Copies[0].Bytes[:7])
	out[0].Words = slices.Clone(out[0].Words[:3])
	out[1].Words = slices.Clone(out[1].Words[:4])
	return out
}

// wanted is what rooms comes to.
func wanted() api.Report {
	return api.Report{
		Results: []api.Result{did(1, 0, 0), did(1, 1, 5), did(1, 2, 2), failed(2, 3, api.ECHILD), did(2, 4, 2), did(1, 3, 2), did(1, 4, 1)},
		Points:  []int{0, 256, 960, 1088, 1098, 1151, 1216},
	}
}

// TestNothingIsChanged: what is handed in stays as it is.
func TestNothingIsChanged(t *testing.T) {
	l := rooms()
	picks := []int{0, 0, 0, 0, 0, 0, 7, -7}
	execs(t, l, 0, picks[:6], wanted())
	if !reflect.DeepEqual(whole(l), whole(rooms())) {
		t.Errorf("%+v", whole(l))
	}
	if !slices.Equal(picks, []int{0, 0, 0, 0, 0, 0, 7, -7}) {
		t.Error(picks)
	}
	b, _ := binary.Encode(l)
	b = append(b, "KEPT"...)
	before := slices.Clone(b)
	if r, e := run.Run(b[:len(b)-4], 0, nil); e != api.OK || !same(r, wanted()) || !slices.Equal(b, before) {
		t.Error(r, e, b)
	}
	x, _ := types.Compile(description)
	y, _ := types.Compile(description)
	program := func() api.Program { return api.Program{step(0, ptr(data("/a")), value(9)), step(3), step(9)} }
	p := program()
	if r, e := run.Program(x, p[:2], 0, picks[:1]); e != api.OK || len(r.Results) != 2 || !reflect.DeepEqual(x, y) || !reflect.DeepEqual(p, program()) {
		t.Error(r, e, p)
	}
}

// TestRoomIsNotRead: picks and words behind the lists' ends play no part.
func TestRoomIsNotRead(t *testing.T) {
	l := []api.Exec{fork(), getpid()}
	picks := []int{0, 1, 1, 1}
	results(t, l, picks[:1], did(1, 0, 2), did(1, 1, 1), did(2, 1, 2))
	results(t, l, picks, did(1, 0, 2), did(2, 1, 2), did(1, 1, 1))
}

// TestApart: what is done to an answer no other list of it can tell, nor what was handed in, nor a later answer.
func TestApart(t *testing.T) {
	l := rooms()
	r, _ := run.Exec(l, 0, nil)
	scrawl(r.Results, did(-9, -9, -9))
	if !slices.Equal(r.Points, wanted().Points) {
		t.Error(r)
	}
	r, _ = run.Exec(l, 0, nil)
	scrawl(r.Points, -9)
	if !slices.Equal(r.Results, wanted().Results) {
		t.Error(r)
	}
	again, _ := run.Exec(l, 0, nil)
	if !same(again, wanted()) || !reflect.DeepEqual(whole(l), whole(rooms())) {
		t.Error(again, l)
	}
	// Nothing is kept: neither of the arguments nor of an earlier run.
	for i := range l {
		scrawl(l[i].Words, api.Word{Ref: -9})
		scrawl(l[i].Copies, at(-9, ""))
	}
	scrawl(l, call(-9))
	if !same(again, wanted()) {
		t.Error(again)
	}
	for range 3 {
		execs(t, rooms(), 0, nil, wanted())
	}
}
