package prog_test

import (
	"math"
	"reflect"
	"testing"

	"dredger/api"
	"dredger/prog"
)

func TestSize(t *testing.T) {
	for _, row := range []struct {
		n    int
		a    api.Arg
		want int
	}{
		{tInt, value(1), 4}, {tConst, value(5), 2}, {tFlags, value(0), 4}, {tCallLen, value(0), 2}, {tFd, value(0), 4}, {tPid, value(7), 8},
		{tCallLen, value(math.MinInt), 2}, {tStructLen, value(math.MaxInt), 1}, // any length
		{tFd, ref(0), 4}, {tFd, ref(-5), 4}, {tPid, ref(math.MaxInt), 8}, // any reference
		{tText, data("/a"), 3}, {tText, data(""), 1}, {tText, data("abc"), 4},
		{tData, data("a"), 1}, {tData, data("abcd"), 4},
		{tArray, group(ref(0)), 4}, {tArray, group(ref(0), value(0), value(-1)), 12},
		{tStruct, structOf(99, "abc", ref(99)), 8},
		{tUnion, part(0, data("")), 1}, {tUnion, part(1, structOf(0, "a", value(0))), 6}, {tUnion, part(2, group(value(0), value(0))), 8},
		{tPtr, ptr(), 8}, {tPtr, ptr(part(0, data("abc"))), 8},
	} {
		if n, e := prog.Size(sample(), row.n, row.a); n != row.want || e != api.OK {
			t.Errorf("%d, %+v: %d, %v, want %d", row.n, row.a, n, e, row.want)
		}
	}
	for _, n := range append([]int{13}, extremes...) {
		if size, e := prog.Size(sample(), n, value(1)); size != 0 || e != api.ErrArg {
			t.Errorf("type %d: %d, %v", n, size, e)
		}
		if a, e := prog.Default(sample(), n); !reflect.DeepEqual(a, api.Arg{}) || e != api.ErrArg {
			t.Errorf("type %d: %+v, %v", n, a, e)
		}
	}
	// What is wrong deep within.
	for _, row := range []struct {
		a   api.Arg
		why api.Errno
	}{
		{ptr(part(1, structOf(1, "", value(0)))), api.ErrValue},
		{ptr(part(1, structOf(1, "a", value(1)))), api.ErrValue},
		{ptr(part(1, group(data("a"), data("a"), value(0)))), api.ErrKind},
		{ptr(part(2, group())), api.ErrCount},
		{ptr(part(2, group(ref(99), value(1), data("")))), api.ErrValue},
	} {
		if n, e := prog.Size(sample(), tPtr, row.a); n != 0 || e != row.why {
			t.Errorf("%+v: %d, %v, want %v", row.a, n, e, row.why)
		}
	}
	// A pointer within is as great as an address, whatever it leads to.
	x := api.Table{Types: []api.Type{{Kind: api.TypeData, Hi: 64}, pointer(0), wide(api.TypeStruct, 3, 1)}}
	if n, e := prog.Size(x, 2, group(ptr(), ptr(data("0123456789")), ptr(data("")))); n != 24 || e != api.OK {
		t.Error(n, e)
	}
}

func TestDefault(t *testing.T) {
	for n, want := range []api.Arg{
		tInt: value(1), tConst: value(5), tFlags: value(0), tCallLen: value(0), tFd: value(-1), tText: data("/a"), tData: data("\x00"),
		tArray: group(value(-1)), tStructLen: value(0), tStruct: structOf(0, "\x00", value(-1)), tUnion: part(0, data("/a")), tPtr: ptr(part(0, data("/a"))), tPid: value(7),
	} {
		a, e := prog.Default(sample(), n)
		if e != api.OK || !reflect.DeepEqual(trimArgs([]api.Arg{a}), trimArgs([]api.Arg{want})) {
			t.Errorf("%d: %+v, %v, want %+v", n, a, e, want)
		}
	}
	// Ranges that begin at 0, or end where they begin.
	x := api.Table{Types: []api.Type{{Kind: api.TypeData}, {Kind: api.TypeData, Lo: 64, Hi: 64}, array(0, 8, 1), array(8, 8, 1), {Kind: api.TypeInt, Size: 1, Lo: math.MinInt, Hi: math.MaxInt}, {Kind: api.TypeText, Texts: []string{""}}, {Kind: api.TypeRes, Size: 1, Values: []int{3, 1, 2}}}}
	noughts := make([]byte, 64)
	full := data(string(noughts))
	for n, want := range []api.Arg{data(""), full, group(), group(full, full, full, full, full, full, full, full), value(math.MinInt), data(""), value(3)} {
		a, e := prog.Default(x, n)
		if e != api.OK || !reflect.DeepEqual(trimArgs([]api.Arg{a}), trimArgs([]api.Arg{want})) {
			t.Errorf("%d: %+v, %v, want %+v", n, a, e, want)
		}
	}
}
