package layout_test

import (
	"fmt"
	"reflect"
	"testing"

	"dredger/api"
	"dredger/layout"
	"dredger/types"
)

// numbers is a source of the same numbers each time.
type numbers uint64

func (n *numbers) next(below int) int {
	*n = *n*6364136223846793005 + 1442695040888963407
	return int(uint64(*n)>>33) % below
}

// pick is one of a list.
func pick[T any](n *numbers, list ...T) T { return list[n.next(len(list))] }

func value(v int) api.Arg           { return api.Arg{Kind: api.ArgValue, Value: v} }
func ref(i int) api.Arg             { return api.Arg{Kind: api.ArgRef, Value: i} }
func ptr(kids ...api.Arg) api.Arg   { return api.Arg{Kind: api.ArgPtr, Kids: kids} }
func group(kids ...api.Arg) api.Arg { return api.Arg{Kind: api.ArgGroup, Kids: kids} }
func part(i int, kid api.Arg) api.Arg {
	return api.Arg{Kind: api.ArgUnion, Value: i, Kids: []api.Arg{kid}}
}
func data(s string) api.Arg { return api.Arg{Kind: api.ArgData, Bytes: []byte(s)} }

func step(call int, args ...api.Arg) api.Step { return api.Step{Call: call, Args: args} }

// at is bytes that are laid at an address; of is a result that is.
func at(addr int, bytes string) api.Copy { return api.Copy{Addr: addr, Ref: -1, Bytes: []byte(bytes)} }
func of(addr, ref, size, value int) api.Copy {
	return api.Copy{Addr: addr, Ref: ref, Size: size, Value: value}
}

func word(v int) api.Word      { return api.Word{Ref: -1, Value: v} }
func result(i, v int) api.Word { return api.Word{Ref: i, Value: v} }
func words(l ...int) []api.Word {
	var out []api.Word
	for _, v := range l {
		out = append(out, word(v))
	}
	return out
}

const description = `
resource fd[int32]: -1, 0
resource pid[int16]: 7
flags bits = 1, 2, 4
struct pair { n len[d, int16], d data[0, 4], r fd }
struct deep { a array[pair, 0, 2], n len[a, int8], p pid, m len[p, int64] }
union any { t text["/a", ""], p pair, d deep, i int64 }
call make(1)() fd
call fork(2)() pid
call plain(3)(i int8, c const[-2, int16], f flags[bits, int32], r fd, p pid)
call in(63)(n len[p, int32], p ptr[in, any], m len[p, int8])
call out(0)(p ptr[out, any], n len[p, int32])
call both(9)(p ptr[inout, data[0, 64]], q ptr[in, text["/a", "/bcd", ""]], r ptr[out, array[int64, 0, 8]], n len[r, int32], f len[n2, int8], n2 fd)
`

// Places of the calls.
const (
	cMake = iota
	cFork
	cPlain
	cIn
	cOut
	cBoth
)

func sample(t *testing.T) api.Table {
	t.Helper()
	x, e := types.Compile(description)
	if e != nil {
		t.Fatal(e)
	}
	return x
}

func trimArgs(l []api.Arg) (out []api.Arg) {
	for _, a := range l {
		out = append(out, api.Arg{Kind: a.Kind, Value: a.Value, Kids: trimArgs(a.Kids), Bytes: append([]byte(nil), a.Bytes...)})
	}
	return out
}

// trim is a program all of whose empty lists are nil, in memory of its own.
func trim(p api.Program) (out api.Program) {
	for _, s := range p {
		out = append(out, api.Step{Call: s.Call, Args: trimArgs(s.Args)})
	}
	return out
}

// trimExecs is likewise of what is executed.
func trimExecs(l []api.Exec) (out []api.Exec) {
	for _, x := range l {
		y := api.Exec{Number: x.Number, Words: append([]api.Word(nil), x.Words...)}
		for _, c := range x.Copies {
			c.Bytes = append([]byte(nil), c.Bytes...)
			y.Copies = append(y.Copies, c)
		}
		out = append(out, y)
	}
	return out
}

// fixes asks for what Fix answers.
func fixes(t *testing.T, x api.Table, p, want api.Program, why api.Errno) {
	t.Helper()
	before := trim(p)
	q, e := layout.Fix(x, p)
	if e != why || !reflect.DeepEqual(trim(q), trim(want)) {
		t.Errorf("%+v: %+v, %v, want %+v, %v", p, q, e, want, why)
	}
	if !reflect.DeepEqual(trim(p), before) {
		t.Errorf("%+v was %+v", p, before)
	}
}

// lays asks for what Lay answers.
func lays(t *testing.T, x api.Table, p api.Program, want []api.Exec, why api.Errno) {
	t.Helper()
	before := trim(p)
	l, e := layout.Lay(x, p)
	if e != why || !reflect.DeepEqual(trimExecs(l), trimExecs(want)) {
		t.Errorf("%+v: %+v, %v, want %+v, %v", p, l, e, want, why)
	}
	if !reflect.DeepEqual(trim(p), before) {
		t.Errorf("%+v was %+v", p, before)
	}
}

// changed is a program with a change.
func changed(p api.Program, change func(p api.Program)) api.Program {
	q := trim(p)
	change(q)
	return q
}

// pair is a struct of the sample with the length of its data.
func pair(n int, d string, r api.Arg) api.Arg { return group(value(n), data(d), r) }

// right is a program of the sample.
func right() api.Program {
	return api.Program{
		step(cMake), step(cFork),
		step(cPlain, value(255), value(-2), value(5), ref(0), value(7)),
		step(cIn, value(8), ptr(part(1, pair(2, "xy", ref(0)))), value(8)),
		step(cOut, ptr(part(0, data("/a"))), value(3)),
		step(cMake),
		step(cIn, value(25), ptr(part(2, group(group(pair(0, "", ref(5)), pair(2, "xy", value(-1))), value(14), ref(1), value(2)))), value(25)),
		step(cBoth, ptr(data("abc")), ptr(data("/bcd")), ptr(group(value(1), value(2))), value(16), value(4), value(0)),
		step(cIn, value(0), ptr(), value(0)),
	}
}

func TestFix(t *testing.T) {
	x := sample(t)
	fixes(t, x, right(), right(), api.OK)
	fixes(t, x, nil, nil, api.OK)
	fixes(t, x, changed(right(), func(p api.Program) {
		p[3].Args[0].Value, p[3].Args[2].Value, p[3].Args[1].Kids[0].Kids[0].Kids[0].Value = -9, 1<<40, 77
		p[4].Args[1].Value = 0
		deep := p[6].Args[1].Kids[0].Kids[0]
		deep.Kids[0].Kids[0].Kids[0].Value, deep.Kids[0].Kids[1].Kids[0].Value, deep.Kids[1].Value, deep.Kids[3].Value = 1, 1, 1, 1
		p[7].Args[3].Value, p[7].Args[4].Value = 8, 0
		p[8].Args[0].Value, p[8].Args[2].Value = 8, 25
	}), right(), api.OK)
}

// TestFixRefuses: what is wrong but for lengths, also behind a step with a wrong length, or in a step that has one.
func TestFixRefuses(t *testing.T) {
	x := sample(t)
	for why, change := range map[api.Errno]func(p api.Program){
		api.ErrCall:  func(p api.Program) { p[6].Call = 6 },
		api.ErrCount: func(p api.Program) { p[6].Args = p[6].Args[:2] },
		api.ErrKind:  func(p api.Program) { p[6].Args[0].Kind = api.ArgData },
		api.ErrValue: func(p api.Program) { p[6].Args[1].Kids[0].Value = 4 },
		api.ErrRef:   func(p api.Program) { p[6].Args[1].Kids[0].Kids[0].Kids[2].Value = 6 },
	} {
		fixes(t, x, changed(right(), change), nil, why)
		for _, i := range []int{3, 4, 6, 7, 8} {
			fixes(t, x, changed(right(), func(p api.Program) {
				p[i].Args[lengthOf(i)].Value++
				change(p)
			}), nil, why)
		}
		// The first of two.
		fixes(t, x, changed(right(), func(p api.Program) { p[4].Args[1].Value++; change(p); p[7].Call = -1 }), nil, why)
		fixes(t, x, changed(right(), func(p api.Program) { p[4].Args[1].Value++; change(p); p[2].Args[0].Value = 256 }), nil, api.ErrValue)
	}
	// A wrong length stays what it is, if more is wrong with it.
	fixes(t, x, changed(right(), func(p api.Program) { p[4].Args[1].Bytes = []byte{1} }), nil, api.ErrKind)
	fixes(t, x, changed(right(), func(p api.Program) { p[4].Args[1] = ref(0) }), nil, api.ErrKind)
	fixes(t, x, changed(right(), func(p api.Program) { p[3].Args[0].Value++; p[4].Args[1].Kids = []api.Arg{{}} }), nil, api.ErrKind)
	full := make(api.Program, 65)
	fixes(t, x, full[:64], full[:64], api.OK)
	fixes(t, x, full, nil, api.ErrFull)
	x.Calls[0].Number = 64
	fixes(t, x, right(), nil, api.ErrArg)
	fixes(t, x, full, nil, api.ErrArg)
	fixes(t, x, nil, nil, api.ErrArg)
}

// lengthOf is the place of a length in the sample's steps.
func lengthOf(i int) int { return map[int]int{3: 0, 4: 1, 6: 2, 7: 3, 8: 0}[i] }

// TestLay: the sample, byte by byte.
func TestLay(t *testing.T) {
	lays(t, sample(t), right(), []api.Exec{
		{Number: 1}, {Number: 2},
		{Number: 3, Words: []api.Word{word(255), word(-2), word(5), result(0, -1), word(7)}},
		{Number: 63, Copies: []api.Copy{at(4096, "\x02\x00xy\x00\x00\x00\x00"), of(4100, 0, 4, -1)}, Words: words(8, 4096, 8)},
		{Number: 0, Words: words(4104, 3)},
		{Number: 1},
		{Number: 63, Copies: []api.Copy{
			at(4112, "\x00\x00\x00\x00\x00\x00"+"\x02\x00xy\xff\xff\xff\xff"+"\x0e"+"\x00\x00"+"\x02\x00\x00\x00\x00\x00\x00\x00"),
			of(4114, 5, 4, -1), of(4127, 1, 2, 7),
		}, Words: words(25, 4112, 25)},
		{Number: 9, Copies: []api.Copy{at(4144, "abc"), at(4152, "/bcd\x00")}, Words: words(4144, 4152, 4160, 16, 4, 0)},
		{Number: 63, Words: words(0, 0, 0)},
	}, api.OK)
	lays(t, sample(t), nil, nil, api.OK)
}

// TestLayExample: the chapter's.
func TestLayExample(t *testing.T) {
	x, e := types.Compile("call f(3)(p ptr[in, text[\"/a\"]], q ptr[in, text[\"/a\"]])")
	if e != nil {
		t.Fatal(e)
	}
	lays(t, x, api.Program{step(0, ptr(data("/a")), ptr(data("/a")))}, []api.Exec{{Number: 3, Copies: []api.Copy{at(4096, "\x2f\x61\x00"), at(4104, "/a\x00")}, Words: words(4096, 4104)}}, api.OK)
}

// TestLayNothing: what has no size has an address, and no copy; what follows it lies there, too.
func TestLayNothing(t *testing.T) {
	x := sample(t)
	both := func(d, q string, items ...api.Arg) api.Step {
		return step(cBoth, ptr(data(d)), ptr(data(q)), ptr(group(items...)), value(8*len(items)), value(4), value(0))
	}
	lays(t, x, api.Program{both("", ""), both("", "/a"), both("12345678", "", value(3))}, []api.Exec{
		{Number: 9, Copies: []api.Copy{at(4096, "\x00")}, Words: words(4096, 4096, 4104, 0, 4, 0)},
		{Number: 9, Copies: []api.Copy{at(4104, "/a\x00")}, Words: words(4104, 4104, 4112, 0, 4, 0)},
		{Number: 9, Copies: []api.Copy{at(4112, "12345678"), at(4120, "\x00")}, Words: words(4112, 4120, 4128, 8, 4, 0)},
	}, api.OK)
	// An array of none: neither bytes nor references.
	y, e := types.Compile("resource fd[int8]: 1\ncall f(3)(p ptr[in, array[fd, 0, 1]], q ptr[inout, array[fd, 1]])")
	if e != nil {
		t.Fatal(e)
	}
	lays(t, y, api.Program{step(0, ptr(group()), ptr(group(value(1))))}, []api.Exec{{Number: 3, Copies: []api.Copy{at(4096, "\x01")}, Words: words(4096, 4096)}}, api.OK)
}

// TestLayDirections: of what is only written nothing is copied, references neither; it has room all the same.
func TestLayDirections(t *testing.T) {
	for dir, copied := range map[string]bool{"in": true, "out": false, "inout": true} {
		x, e := types.Compile("resource fd[int8]: 9\ncall make(0)() fd\ncall f(3)(p ptr[" + dir + ", array[fd, 0, 8]], q ptr[in, data[1]])")
		if e != nil {
			t.Fatal(e)
		}
		want := api.Exec{Number: 3, Words: words(4096, 4104)}
		if copied {
			want.Copies = []api.Copy{at(4096, "\x09\x00\x00"), of(4097, 0, 1, 9), of(4098, 0, 1, 9)}
		}
		want.Copies = append(want.Copies, at(4104, "q"))
		lays(t, x, api.Program{step(0), step(1, ptr(group(value(9), ref(0), ref(0))), ptr(data("q")))}, []api.Exec{{}, want}, api.OK)
	}
}

// TestLayValues: values beyond their sizes are cut off, in memory alone.
func TestLayValues(t *testing.T) {
	x := api.Table{
		Types: []api.Type{
			{Kind: api.TypeInt, Size: 2, Lo: -1 << 40, Hi: 1 << 40}, {Kind: api.TypeStruct, Elems: []int{0, 0}, Names: []string{"", ""}},
			{Kind: api.TypePtr, Size: 8, Dir: api.DirIn, Elems: []int{1}}, {Kind: api.TypeInt, Size: 1, Lo: -1 << 40, Hi: 1 << 40},
		},
		Calls: []api.Call{{Args: []int{2, 3, 0}, Names: []string{"", "", ""}}},
	}
	lays(t, x, api.Program{step(0, ptr(group(value(0x12345), value(-2))), value(0x123), value(-1<<40))}, []api.Exec{{Copies: []api.Copy{at(4096, "\x45\x23\xfe\xff")}, Words: words(4096, 0x123, -1<<40)}}, api.OK)
}

func TestLayRefuses(t *testing.T) {
	x := sample(t)
	lays(t, x, changed(right(), func(p api.Program) { p[3].Args[0].Value++ }), nil, api.ErrLen)
	lays(t, x, changed(right(), func(p api.Program) { p[3].Args[0].Value++; p[2].Call = 6 }), nil, api.ErrCall)
	lays(t, x, changed(right(), func(p api.Program) { p[3].Args[0].Value++; p[4].Call = 6 }), nil, api.ErrLen)
	lays(t, x, changed(right(), func(p api.Program) { p[2].Args[3].Value = 1 }), nil, api.ErrRef)
	lays(t, x, make(api.Program, 65), nil, api.ErrFull)
	x.Types[0].Kind = 0
	lays(t, x, nil, nil, api.ErrArg)
}

// TestRoom: the memory is full to its last byte, and one byte more.
func TestRoom(t *testing.T) {
	for _, dir := range []string{"in", "out", "inout"} {
		x, e := types.Compile(fmt.Sprintf("call f(0)(p ptr[%s, data[0, 64]], q ptr[%s, data[0, 64]])", dir, dir))
		if e != nil {
			t.Fatal(e)
		}
		room := func(lens []int, why api.Errno) {
			t.Helper()
			var p api.Program
			for i := 0; i < len(lens); i += 2 {
				p = append(p, step(0, ptr(data(string(make([]byte, lens[i])))), ptr(data(string(make([]byte, lens[i+1]))))))
			}
			l, e := layout.Lay(x, p)
			if e != why || why != api.OK && l != nil || why == api.OK && len(l) != len(p) {
				t.Errorf("%v: %v", lens, e)
			}
			if q, e := layout.Fix(x, p); e != api.OK || len(q) != len(p) {
				t.Errorf("%v: Fix: %v", lens, e)
			}
		}
		full := func(count, len int, more ...int) []int {
			var l []int
			for range count {
				l = append(l, len)
			}
			return append(l, more...)
		}
		room(full(32, 64), api.OK)
		room(full(32, 64, 0, 0), api.OK)
		room(full(32, 64, 0, 1), api.ErrRoom)
		room(full(32, 64, 1, 0), api.ErrRoom)
		room(full(31, 64, 63), api.OK)
		room(full(30, 64, 57, 64), api.OK) // 57 as good as 64
		room(full(30, 64, 56, 64, 8, 0), api.OK)
		room(full(30, 64, 57, 64, 1, 0), api.ErrRoom)
		room(full(30, 64, 56, 64, 9, 0), api.ErrRoom)
		room(full(128, 1), api.OK)
		room(full(128, 9), api.OK)
		room(full(127, 9, 17), api.ErrRoom)
		room(full(127, 9, 16), api.OK)
	}
	// What is wrong with the program comes first.
	x := sample(t)
	var p api.Program
	for range 33 {
		p = append(p, step(cBoth, ptr(data(string(make([]byte, 64)))), ptr(), ptr(), value(0), value(4), value(0)))
	}
	lays(t, x, p, nil, api.ErrRoom)
	p[32].Args[3].Value = 1
	lays(t, x, p, nil, api.ErrLen)
}

// TestLayByHand: tables that no description has: pointers in one another, and in what is no pointer.
func TestLayByHand(t *testing.T) {
	x := api.Table{
		Types: []api.Type{
			{Kind: api.TypeRes, Size: 2, Of: "r", Values: []int{5}},
			{Kind: api.TypePtr, Size: 8, Dir: api.DirIn, Elems: []int{0}},
			{Kind: api.TypeStruct, Elems: []int{0, 1, 1, 0}, Names: []string{"a", "b", "c", "d"}},
			{Kind: api.TypePtr, Size: 8, Dir: api.DirIn, Elems: []int{2}},
			{Kind: api.TypePtr, Size: 8, Dir: api.DirOut, Elems: []int{2}},
			{Kind: api.TypeUnion, Elems: []int{0, 1}, Names: []string{"", ""}},
		},
		Calls: []api.Call{{Ret: "r"}, {Args: []int{3}, Names: []string{""}}, {Args: []int{4}, Names: []string{""}}, {Args: []int{2, 5, 0}, Names: []string{"", "", ""}}},
	}
	s := group(ref(0), ptr(ref(0)), ptr(), value(5))
	bytes := "\x00\x00" + "\x18\x10\x00\x00\x00\x00\x00\x00" + "\x00\x00\x00\x00\x00\x00\x00\x00" + "\x05\x00"
	inner := []api.Copy{at(4120, "\x00\x00"), of(4120, 0, 2, 5)}
	lays(t, x, api.Program{step(0), step(1, ptr(s))}, []api.Exec{{}, {Copies: append([]api.Copy{at(4096, bytes), of(4096, 0, 2, 5)}, inner...), Words: words(4096)}}, api.OK)
	lays(t, x, api.Program{step(0), step(2, ptr(s))}, []api.Exec{{}, {Copies: inner, Words: words(4096)}}, api.OK)
	lays(t, x, api.Program{step(0), step(3, s, part(1, ptr(value(5))), ref(0))}, []api.Exec{{}, {
		Copies: []api.Copy{at(4096, "\x00\x00"), of(4096, 0, 2, 5), at(4104, "\x05\x00")}, Words: []api.Word{word(0), word(1), result(0, 5)}}}, api.OK)
}
