package prog_test

import (
	"math"
	"testing"

	"dredger/api"
	"dredger/prog"
)

// extremes is numbers that are mostly none.
var extremes = []int{-2, -1, 100, 1 << 31, math.MaxInt, math.MinInt}

// changed is the right program with a change.
func changed(change func(p api.Program)) api.Program {
	p := trim(right())
	change(p)
	return p
}

func TestCheck(t *testing.T) {
	wants(t, right(), 0, api.OK)
	wants(t, nil, 0, api.OK)
	wants(t, api.Program{}, 0, api.OK)
	// Empty lists are as nil ones.
	wants(t, api.Program{{Call: cMake, Args: []api.Arg{}}, use(api.Arg{Kind: api.ArgRef, Kids: []api.Arg{}, Bytes: []byte{}}, 0, api.Arg{Kind: api.ArgPtr, Kids: []api.Arg{}, Bytes: []byte{}})}, 0, api.OK)
}

func TestCheckSteps(t *testing.T) {
	p := make(api.Program, 64)
	wants(t, p, 0, api.OK)
	wants(t, append(p, api.Step{}), 0, api.ErrFull)
	// Ahead of what is wrong with steps.
	wants(t, make(api.Program, 1000), 0, api.ErrFull)
	wants(t, append(api.Program{{Call: -1}}, p...), 0, api.ErrFull)
	p[63].Call = 4
	wants(t, p, 63, api.ErrCall)
	for _, call := range append([]int{4}, extremes...) {
		wants(t, changed(func(p api.Program) { p[3].Call = call }), 3, api.ErrCall)
		wants(t, api.Program{{Call: call, Args: make([]api.Arg, 9)}}, 0, api.ErrCall)
	}
	wants(t, changed(func(p api.Program) { p[0].Args = []api.Arg{value(1)} }), 0, api.ErrCount)
	wants(t, changed(func(p api.Program) { p[2].Args = p[2].Args[:5] }), 2, api.ErrCount)
	wants(t, changed(func(p api.Program) { p[4].Args = nil }), 4, api.ErrCount)
	wants(t, changed(func(p api.Program) { p[5].Args = append(p[5].Args, value(1)) }), 5, api.ErrCount)
	// The first step that is wrong, whatever is wrong with later ones.
	wants(t, changed(func(p api.Program) { p[2].Args[3].Value = 6; p[1].Call = 9 }), 1, api.ErrCall)
	wants(t, changed(func(p api.Program) { p[2].Args[3].Value = 6; p[3].Call = 9 }), 2, api.ErrLen)
	// A count ahead of arguments.
	wants(t, changed(func(p api.Program) { p[2].Args = append(p[2].Args, value(1)); p[2].Args[0] = data("") }), 2, api.ErrCount)
}

// only asks of an argument of a type, alone in a step, behind a step that makes an fd, and one that makes a pid.
func only(t *testing.T, n int, a api.Arg, why api.Errno) {
	t.Helper()
	x := sample()
	x.Calls[cKill].Args[0] = n
	e := prog.Check(x, api.Program{step(cMake), step(cFork), step(cKill, a)})
	if why != api.OK {
		isFault(t, a, e, 2, why)
	} else if e != nil {
		t.Errorf("%+v: %v", a, e)
	}
	size, errno := prog.Size(x, n, a)
	if why == api.ErrRef || why == api.ErrLen {
		why = api.OK
	}
	if errno != why || why != api.OK && size != 0 {
		t.Errorf("the size of %+v: %d, %v, want %v", a, size, errno, why)
	}
}

func TestCheckNumbers(t *testing.T) {
	for v := -3; v < 40; v++ {
		is := func(fits bool) api.Errno {
			if fits {
				return api.OK
			}
			return api.ErrValue
		}
		only(t, tInt, value(v), is(v >= 1 && v <= 9))
		only(t, tConst, value(v), is(v == 5))
		only(t, tFd, value(v), is(v == -1 || v == 0))
		only(t, tPid, value(v), is(v == 7))
		// 24 is whole, or it is not there.
		only(t, tFlags, value(v), is(v >= 0 && v&^27 == 0 && (v&24 == 0 || v&24 == 24)))
	}
	for _, v := range extremes {
		only(t, tInt, value(v), api.ErrValue)
		only(t, tConst, value(v), api.ErrValue)
		only(t, tFlags, value(v), api.ErrValue)
	}
}

// TestCheckFlags: none of values, values that overlap, that are 0, that are below 0.
func TestCheckFlags(t *testing.T) {
	check := func(values []int, v int, fits bool) {
		t.Helper()
		x := api.Table{Types: []api.Type{{Kind: api.TypeFlags, Size: 1, Values: values}}, Calls: []api.Call{{Args: []int{0}, Names: []string{""}}}}
		if e := prog.Check(x, api.Program{step(0, value(v))}); (e == nil) != fits {
			t.Errorf("%d of %v: %v", v, values, e)
		}
	}
	check(nil, 0, true)
	check(nil, 1, false)
	check([]int{0}, 0, true)
	check([]int{0}, 1, false)
	check([]int{3, 6}, 7, true)
	check([]int{3, 6}, 2, false)
	check([]int{3, 6}, 5, false)
	check([]int{1 << 31, 1}, 1<<31+1, true)
	check([]int{-2, 1}, -1, true)
	check([]int{-2, 1}, -2, true)
	check([]int{-2, 1}, -3, false)
	check([]int{math.MinInt, math.MaxInt}, -1, true)
}

func TestCheckRefs(t *testing.T) {
	only(t, tFd, ref(0), api.OK)
	only(t, tPid, ref(1), api.OK)
	only(t, tFd, ref(1), api.ErrRef)
	only(t, tPid, ref(0), api.ErrRef)
	for _, place := range append([]int{2, 3}, extremes...) {
		only(t, tFd, ref(place), api.ErrRef)
		only(t, tArray, group(ref(0), ref(place)), api.ErrRef)
	}
	wants(t, changed(func(p api.Program) { p[2].Args[4] = ref(3) }), 2, api.ErrRef) // a later one
	wants(t, changed(func(p api.Program) { p[2].Args[4] = ref(2) }), 2, api.ErrRef) // itself
	wants(t, changed(func(p api.Program) { p[5].Args[4] = ref(2) }), 5, api.ErrRef) // one that makes nothing
	for _, n := range []int{tInt, tConst, tFlags, tCallLen, tText, tData, tArray, tStruct, tUnion, tPtr} {
		only(t, n, ref(0), api.ErrKind)
	}
}

func TestCheckBytes(t *testing.T) {
	for s, why := range map[string]api.Errno{"/a": 0, "": 0, "abc": 0, "/": api.ErrValue, "/a\x00": api.ErrValue, "ab": api.ErrValue, "abcd": api.ErrValue, "ABC": api.ErrValue} {
		only(t, tText, data(s), why)
	}
	for s, why := range map[string]api.Errno{"": api.ErrValue, "a": 0, "\x00\xff": 0, "abcd": 0, "abcde": api.ErrValue, "\x00": 0} {
		only(t, tData, data(s), why)
	}
}

func TestCheckCounts(t *testing.T) {
	f := value(0)
	only(t, tPtr, ptr(), api.OK)
	only(t, tPtr, ptr(part(0, data(""))), api.OK)
	only(t, tPtr, ptr(part(0, data("")), part(0, data(""))), api.ErrCount)
	only(t, tArray, group(), api.ErrCount)
	only(t, tArray, group(f), api.OK)
	only(t, tArray, group(f, f, f), api.OK)
	only(t, tArray, group(f, f, f, f), api.ErrCount)
	only(t, tStruct, structOf(1, "a", f), api.OK)
	only(t, tStruct, group(value(1), data("a")), api.ErrCount)
	only(t, tStruct, group(value(1), data("a"), f, f), api.ErrCount)
	only(t, tStruct, group(), api.ErrCount)
	only(t, tUnion, part(0, data("")), api.OK)
	only(t, tUnion, part(1, structOf(1, "a", f)), api.OK)
	only(t, tUnion, part(2, group(f)), api.OK)
	for _, v := range append([]int{3}, extremes...) {
		only(t, tUnion, part(v, data("")), api.ErrValue)
	}
	only(t, tUnion, api.Arg{Kind: api.ArgUnion}, api.ErrCount)
	only(t, tUnion, api.Arg{Kind: api.ArgUnion, Value: 9, Kids: []api.Arg{f, f}}, api.ErrCount)
}

// TestCheckKinds: each kind of argument, with each field filled, of each type.
func TestCheckKinds(t *testing.T) {
	good := []api.Arg{tInt: value(1), tConst: value(5), tFlags: value(3), tCallLen: value(0), tFd: ref(0), tText: data("/a"), tData: data("a"), tArray: group(ref(0)), tStructLen: value(0), tStruct: structOf(1, "a", ref(0)), tUnion: part(2, group(value(0))), tPtr: ptr(part(0, data(""))), tPid: value(7)}
	for n, a := range good {
		only(t, n, a, api.OK)
		for _, kind := range append([]int{0, 1, 2, 3, 4, 5, 6, 7}, extremes...) {
			b := a
			b.Kind = kind
			if isRes := n == tFd || n == tPid; kind != a.Kind && !(isRes && kind <= api.ArgRef && kind > 0) {
				only(t, n, b, api.ErrKind)
				only(t, n, api.Arg{Kind: kind}, api.ErrKind)
			}
		}
		if a.Kind != api.ArgData {
			b := a
			b.Bytes = []byte{0}
			only(t, n, b, api.ErrKind)
		}
		if a.Kind == api.ArgPtr || a.Kind == api.ArgGroup || a.Kind == api.ArgData {
			b := a
			b.Value = 1
			only(t, n, b, api.ErrKind)
			b.Value = math.MinInt
			only(t, n, b, api.ErrKind)
		}
		if a.Kind <= api.ArgRef || a.Kind == api.ArgData {
			b := a
			b.Kids = []api.Arg{{}}
			only(t, n, b, api.ErrKind)
		}
	}
	// A kind ahead of a value, a count, a reference.
	only(t, tInt, api.Arg{Kind: api.ArgValue, Value: 99, Bytes: []byte{1}}, api.ErrKind)
	only(t, tFd, api.Arg{Kind: api.ArgRef, Value: 99, Kids: []api.Arg{{}}}, api.ErrKind)
	only(t, tUnion, api.Arg{Kind: api.ArgUnion, Value: 99, Bytes: []byte{1}}, api.ErrKind)
	only(t, tArray, api.Arg{Kind: api.ArgGroup, Value: 99}, api.ErrKind)
}

// TestCheckOrder: argument by argument, from outside in.
func TestCheckOrder(t *testing.T) {
	bad := value(99)
	only(t, tStruct, group(data(""), data("aaaaa"), bad), api.ErrKind)
	only(t, tStruct, group(value(1), data("aaaaa"), ref(9)), api.ErrValue)
	only(t, tStruct, group(value(9), data("a"), ref(9)), api.ErrRef)
	only(t, tStruct, group(value(9), data("a"), data("")), api.ErrKind)
	only(t, tStruct, group(bad, data(""), data("")), api.ErrValue)
	only(t, tArray, group(ref(9), data(""), bad, bad), api.ErrCount)
	wants(t, changed(func(p api.Program) { p[5].Args[5].Kids[0].Kids[0] = group(ref(9), data(""), bad) }), 5, api.ErrRef)
	only(t, tUnion, part(9, data("zz")), api.ErrValue)
	only(t, tPtr, ptr(part(1, group())), api.ErrCount)
	only(t, tPtr, ptr(part(1, group()), bad), api.ErrCount)
	// What lies deep within an argument comes ahead of the next one.
	deep := use(ref(0), 7, ptr(part(1, structOf(2, "xy", value(1)))))
	x := sample()
	x.Calls[cUse].Args, x.Calls[cUse].Names = []int{tPtr, tInt}, []string{"a", "b"}
	for _, last := range []api.Arg{bad, data("")} {
		isFault(t, last, prog.Check(x, api.Program{step(cUse, deep.Args[5], last)}), 0, api.ErrValue)
	}
	// Lengths come last.
	wants(t, changed(func(p api.Program) { p[2].Args[3].Value, p[2].Args[5].Value = 1, 1 }), 2, api.ErrKind)
	wants(t, changed(func(p api.Program) { p[2].Args[3].Value, p[2].Args[4].Value = 1, 9 }), 2, api.ErrRef)
	wants(t, changed(func(p api.Program) { p[2].Args[3].Value = 1 }), 2, api.ErrLen)
	wants(t, changed(func(p api.Program) { p[2].Args[5].Kids[0].Kids[0].Kids[0].Value = 1 }), 2, api.ErrLen)
}

func TestCheckLengths(t *testing.T) {
	for _, v := range append([]int{6, 8}, extremes...) {
		wants(t, changed(func(p api.Program) { p[2].Args[3].Value = v }), 2, api.ErrLen)
		wants(t, changed(func(p api.Program) { p[6].Args[3].Value = v }), 6, api.ErrLen)
	}
	for v, why := range map[int]api.Errno{1: api.OK, 0: api.ErrLen, 2: api.ErrLen} {
		only(t, tStruct, structOf(v, "a", value(0)), why)
	}
	// Lengths that stand elsewhere, whose field is not there, or is another length.
	x := api.Table{
		Types: []api.Type{
			{Kind: api.TypeLen, Size: 4, Of: "a"}, array(0, 2, 0), wide(api.TypeUnion, 1, 0), pointer(0), wide(api.TypeStruct, 2, 0),
			{Kind: api.TypeText, Texts: []string{"abc"}}, {Kind: api.TypeStruct, Elems: []int{0, 5, 5}, Names: []string{"n", "a", "a"}}, pointer(6), {Kind: api.TypeStruct, Elems: []int{7, 0}, Names: []string{"a", "b"}},
		},
		Calls: []api.Call{
			{Args: []int{1, 2, 3, 4}, Names: []string{"a", "a", "a", "a"}},
			{Args: []int{0, 6, 0, 4}, Names: []string{"n", "a", "a", "a"}},
			{Args: []int{0, 0}, Names: []string{"a", "b"}},
			{Args: []int{0, 8}, Names: []string{"n", "a"}},
			{Args: []int{3, 0, 5}, Names: []string{"a", "n", "a"}},
		},
	}
	x.Types[4].Names = []string{"b", "c"}
	check := func(why api.Errno, s api.Step) {
		t.Helper()
		e := prog.Check(x, api.Program{s})
		if why != api.OK {
			isFault(t, s, e, 0, why)
		} else if e != nil {
			t.Errorf("%+v: %v", s, e)
		}
	}
	none := step(0, group(value(0), value(0)), part(0, value(0)), ptr(value(0)), group(value(0), value(0)))
	check(api.OK, none)
	for k := range none.Args {
		p := trim(api.Program{none})
		p[0].Args[k].Kids[0].Value = 4
		check(api.ErrLen, p[0])
	}
	inner := group(value(4), data("abc"), data("abc"))
	check(api.OK, step(1, value(12), inner, value(12), group(value(0), value(0))))
	check(api.ErrLen, step(1, value(4), inner, value(12), group(value(0), value(0))))
	check(api.ErrLen, step(1, value(12), inner, value(12), group(value(12), value(0))))
	check(api.OK, step(2, value(4), value(4)))
	check(api.ErrLen, step(2, value(0), value(4)))
	// A pointer within: its own size in the whole, what it leads to for the one beside it.
	check(api.OK, step(3, value(12), group(ptr(inner), value(12))))
	check(api.OK, step(3, value(12), group(ptr(), value(0))))
	check(api.ErrLen, step(3, value(12), group(ptr(inner), value(8))))
	// The first of a name, also where that is a pointer to nothing.
	check(api.OK, step(4, ptr(), value(0), data("abc")))
	check(api.ErrLen, step(4, ptr(), value(4), data("abc")))
	check(api.OK, step(4, ptr(value(0)), value(4), data("abc")))
}
