package gen_test

import (
	"fmt"
	"math"
	"reflect"
	"slices"
	"strings"
	"testing"

	"dredger/api"
	"dredger/draw"
	"dredger/gen"
	"dredger/layout"
	"dredger/prog"
	"dredger/types"
)

func value(v int) api.Arg           { return api.Arg{Kind: api.ArgValue, Value: v} }
func ref(i int) api.Arg             { return api.Arg{Kind: api.ArgRef, Value: i} }
func ptr(kids ...api.Arg) api.Arg   { return api.Arg{Kind: api.ArgPtr, Kids: kids} }
func group(kids ...api.Arg) api.Arg { return api.Arg{Kind: api.ArgGroup, Kids: kids} }
func part(i int, kid api.Arg) api.Arg {
	return api.Arg{Kind: api.ArgUnion, Value: i, Kids: []api.Arg{kid}}
}
func data(s string) api.Arg { return api.Arg{Kind: api.ArgData, Bytes: []byte(s)} }

func step(call int, args ...api.Arg) api.Step { return api.Step{Call: call, Args: args} }

const description = `
resource fd[int32]: -1, 0
resource pid[int16]: 7
flags bits = 1, 2, 4
struct pair { n len[d, int16], d data[0, 4], r fd }
union any { t text["/a", ""], p pair, i int64 }
call make(1)() fd
call fork(2)() pid
call plain(3)(i int8[1, 9], c const[-2, int16], f flags[bits, int32], r fd, p pid)
call in(63)(n len[p, int32], p ptr[in, any], m len[p, int8])
call out(0)(p ptr[out, array[pair, 1, 3]], q ptr[inout, fd], n len[p, int32]) fd
`

// Places of the calls.
const (
	cMake = iota
	cFork
	cPlain
	cIn
	cOut
)

func sample(t *testing.T) api.Table {
	t.Helper()
	x, e := types.Compile(description)
	if e != nil {
		t.Fatal(e)
	}
	return x
}

// one is a table with a type, behind those that it is made of.
func one(l ...api.Type) api.Table { return api.Table{Types: l} }

func trimArgs(l []api.Arg) (out []api.Arg) {
	for _, a := range l {
		out = append(out, api.Arg{Kind: a.Kind, Value: a.Value, Kids: trimArgs(a.Kids), Bytes: append([]byte(nil), a.Bytes...)})
	}
	return out
}

// trim is a program all of whose empty lists are nil, in memory of its own.
func trim(p api.Program) (out api.Program) {
	for _, s := range p {
		out = append(out, api.Step{Call: s.Call, Args: trimArgs(s.Args)})
	}
	return out
}

// left is the last draw of a list, which must not be taken.
const left = 1234567

// draws asks for what Arg draws of a table's last type, by just those draws.
func draws(t *testing.T, x api.Table, p api.Program, l []int, want api.Arg) {
	t.Helper()
	d := draw.New(append(slices.Clone(l), left))
	a, e := gen.Arg(x, len(x.Types)-1, p, d)
	if e != api.OK || !reflect.DeepEqual(trimArgs([]api.Arg{a}), trimArgs([]api.Arg{want})) {
		t.Errorf("%+v of %v: %+v, %v, want %+v", x.Types[len(x.Types)-1], l, a, e, want)
	}
	if d.Used() != len(l) || d.Next(math.MaxInt) != left {
		t.Errorf("%+v of %v: %d used", x.Types[len(x.Types)-1], l, d.Used())
	}
}

// TestInt: its ends, and what lies between.
func TestInt(t *testing.T) {
	x := one(api.Type{Kind: api.TypeInt, Size: 1, Lo: 1, Hi: 9})
	draws(t, x, nil, []int{3, 20}, value(3))
	draws(t, x, nil, []int{0}, value(1))
	draws(t, x, nil, []int{1}, value(9))
	draws(t, x, nil, []int{4}, value(1))
	draws(t, x, nil, []int{5}, value(9))
	draws(t, x, nil, []int{2, 0}, value(1))
	draws(t, x, nil, []int{2, 8}, value(9))
	draws(t, x, nil, []int{3, 9}, value(1))
	draws(t, x, nil, []int{-1, -1}, value(1+6)) // 2^64 - 1 by 4: 3, by 9: 6
	one := one(api.Type{Kind: api.TypeInt, Size: 8, Lo: -5, Hi: -5})
	for _, l := range [][]int{{0}, {1}, {2, 77}, {3, 0}} {
		draws(t, one, nil, l, value(-5))
	}
}

// TestWideInt: of a range of more than 2^31, one of the first 2^31 numbers, or an end.
func TestWideInt(t *testing.T) {
	const most = 1 << 31
	for _, c := range []struct{ lo, hi, number, want int }{
		{0, most - 2, most - 2, most - 2},
		{0, most - 2, most - 1, 0},
		{0, most - 1, most - 1, most - 1},
		{0, most - 1, most, 0},
		{0, most, most - 1, most - 1}, // an int32
		{0, most, most, 0},
		{0, most + 1, most + 1, 1},
		{0, 255, -1, 255},
		{-7, most, most, -7},
		{-most, most, most - 1, -1},
		{-most, most, 2*most + 6, -most + 6},
		{math.MinInt, math.MaxInt, most - 1, math.MinInt + most - 1},
		{math.MinInt, math.MaxInt, most, math.MinInt},
		{math.MinInt, math.MaxInt, -1, math.MinInt + most - 1},
		{math.MinInt, 0, 5, math.MinInt + 5},
		{-1, math.MaxInt, 5, 4},
		{0, math.MaxInt, most, 0},
		{math.MaxInt - most, math.MaxInt, most - 1, math.MaxInt - 1},
		{math.MaxInt - most + 1, math.MaxInt, most - 1, math.MaxInt},
		{math.MaxInt, math.MaxInt, 9, math.MaxInt},
		{math.MinInt, math.MinInt, 9, math.MinInt},
	} {
		x := one(api.Type{Kind: api.TypeInt, Size: 8, Lo: c.lo, Hi: c.hi})
		draws(t, x, nil, []int{2, c.number}, value(c.want))
		draws(t, x, nil, []int{0}, value(c.lo))
		draws(t, x, nil, []int{1}, value(c.hi))
	}
}

// TestConstAndLen: nothing is drawn of them.
func TestConstAndLen(t *testing.T) {
	draws(t, one(api.Type{Kind: api.TypeConst, Size: 2, Lo: -2, Hi: 7}), nil, nil, value(-2))
	draws(t, one(api.Type{Kind: api.TypeLen, Size: 2, Of: "a"}), nil, nil, value(0))
}

// TestFlags: each value by a draw of its own.
func TestFlags(t *testing.T) {
	x := one(api.Type{Kind: api.TypeFlags, Size: 4, Values: []int{1, 6, 12, 0}})
	for _, c := range []struct {
		l    []int
		want int
	}{{[]int{0, 0, 0, 0}, 0}, {[]int{1, 0, 0, 0}, 1}, {[]int{0, 1, 0, 1}, 6}, {[]int{0, 0, 1, 0}, 12}, {[]int{0, 1, 1, 0}, 14}, {[]int{1, 3, -1, 5}, 15}, {[]int{2, 4, -2, 1}, 0}, {[]int{3, 2, 7, 0}, 13}} {
		draws(t, x, nil, c.l, value(c.want))
	}
	draws(t, one(api.Type{Kind: api.TypeFlags, Size: 4}), nil, nil, value(0))
	draws(t, one(api.Type{Kind: api.TypeFlags, Size: 4, Values: []int{-1, 5}}), nil, []int{1, 0}, value(-1))
	draws(t, one(api.Type{Kind: api.TypeFlags, Size: 4, Values: []int{4, 4}}), nil, []int{1, 1}, value(4))
}

// resources is a table with calls that make resources, and a type of one.
func resources(of string) api.Table {
	return api.Table{
		Types: []api.Type{{Kind: api.TypeRes, Size: 4, Of: of, Values: []int{-1, 40, 41}}},
		Calls: []api.Call{{Name: "make", Ret: "fd"}, {Name: "other", Ret: "pid"}, {Name: "none"}},
	}
}

// TestRes: steps that make it, in order; behind them its values.
func TestRes(t *testing.T) {
	x := resources("fd")
	p := api.Program{step(2), step(0), step(1), step(0), step(2), step(0)}
	for number, want := range []int{1, 3, 5} {
		draws(t, x, p, []int{number}, ref(want))
		draws(t, x, p, []int{number + 4}, ref(want))
	}
	for number, want := range []int{-1, 40, 41, -1} {
		draws(t, x, p, []int{3, number}, value(want))
		draws(t, x, nil, []int{number, number}, value(want))
		draws(t, x, api.Program{step(1), step(2)}, []int{7, number}, value(want))
	}
	draws(t, resources("pid"), p, []int{0}, ref(2))
	draws(t, resources("pid"), p, []int{1, 1}, value(40))
	draws(t, resources("f"), p, []int{0, 2}, value(41))
	draws(t, resources("none"), p, []int{1, 0}, value(-1))
	// By the document's words a step that makes nothing makes a resource without a name.
	draws(t, resources(""), p, []int{1}, ref(4))
	full := make(api.Program, api.MaxCalls)
	draws(t, x, full, []int{63}, ref(63))
	draws(t, x, full, []int{64, 1}, value(40))
}

// TestPtr: one of 8 draws leads to nothing.
func TestPtr(t *testing.T) {
	x := one(api.Type{Kind: api.TypeInt, Size: 1, Hi: 9}, api.Type{Kind: api.TypePtr, Size: 8, Dir: 1, Elems: []int{0}})
	for _, number := range []int{0, 8, 16, math.MinInt} {
		draws(t, x, nil, []int{number}, ptr())
	}
	for _, number := range []int{1, 2, 3, 4, 5, 6, 7, 9, -1} {
		draws(t, x, nil, []int{number, 1}, ptr(value(9)))
	}
	x.Types = append(x.Types, api.Type{Kind: api.TypePtr, Size: 8, Dir: 2, Elems: []int{1}})
	draws(t, x, nil, []int{1, 0}, ptr(ptr()))
	draws(t, x, nil, []int{1, 1, 2, 4}, ptr(ptr(value(4))))
}

// TestArray: how many, then each.
func TestArray(t *testing.T) {
	x := one(api.Type{Kind: api.TypeInt, Size: 1, Hi: 9}, api.Type{Kind: api.TypeArray, Lo: 1, Hi: 3, Elems: []int{0}})
	draws(t, x, nil, []int{0, 1}, group(value(9)))
	draws(t, x, nil, []int{1, 1, 0}, group(value(9), value(0)))
	draws(t, x, nil, []int{2, 1, 2, 5, 3, 16}, group(value(9), value(5), value(6)))
	draws(t, x, nil, []int{3, 0}, group(value(0)))
	x.Types[1].Lo, x.Types[1].Hi = 0, 8
	draws(t, x, nil, []int{0}, group())
	draws(t, x, nil, []int{8, 0, 1, 0, 1, 0, 1, 0, 1}, group(value(0), value(9), value(0), value(9), value(0), value(9), value(0), value(9)))
	x.Types[1].Hi = 0
	draws(t, x, nil, []int{5}, group())
	x.Types[1].Lo, x.Types[1].Hi = 2, 2
	draws(t, x, nil, []int{5, 1, 0}, group(value(9), value(0)))
}

// TestStruct: its kids in order; lengths in it are 0 as long as the step is not whole.
func TestStruct(t *testing.T) {
	x := one(api.Type{Kind: api.TypeInt, Size: 1, Hi: 9}, api.Type{Kind: api.TypeData, Lo: 2, Hi: 2}, api.Type{Kind: api.TypeLen, Size: 1, Of: "b"},
		api.Type{Kind: api.TypeStruct, Elems: []int{2, 0, 1, 0}, Names: []string{"n", "a", "b", "c"}})
	draws(t, x, nil, []int{1, 0, 65, 66, 2, 3}, group(value(0), value(9), data("AB"), value(3)))
}

// TestUnion: the part, then its kid.
func TestUnion(t *testing.T) {
	x := one(api.Type{Kind: api.TypeInt, Size: 1, Hi: 9}, api.Type{Kind: api.TypeText, Texts: []string{"/a", "/b"}}, api.Type{Kind: api.TypeUnion, Elems: []int{0, 1, 0}, Names: []string{"a", "b", "c"}})
	draws(t, x, nil, []int{0, 1}, part(0, value(9)))
	draws(t, x, nil, []int{1, 1}, part(1, data("/b")))
	draws(t, x, nil, []int{2, 0}, part(2, value(0)))
	draws(t, x, nil, []int{4, 2}, part(1, data("/a")))
	x.Types[2].Elems, x.Types[2].Names = []int{1}, []string{"a"}
	draws(t, x, nil, []int{9, 1}, part(0, data("/b")))
}

// TestTextAndData: one of the texts; how many bytes, then each.
func TestTextAndData(t *testing.T) {
	x := one(api.Type{Kind: api.TypeText, Texts: []string{"/a", "", "\xff\x00", strings.Repeat("x", 24)}})
	for number, want := range []string{"/a", "", "\xff\x00", strings.Repeat("x", 24), "/a"} {
		draws(t, x, nil, []int{number}, data(want))
	}
	draws(t, one(api.Type{Kind: api.TypeText, Texts: []string{"y"}}), nil, []int{5}, data("y"))
	x = one(api.Type{Kind: api.TypeData, Lo: 1, Hi: 4})
	draws(t, x, nil, []int{0, 65}, data("A"))
	draws(t, x, nil, []int{3, 0, 255, 256, -1}, data("\x00\xff\x00\xff"))
	draws(t, x, nil, []int{5, 300, 7}, data("\x2c\x07"))
	draws(t, one(api.Type{Kind: api.TypeData}), nil, []int{5}, data(""))
	long := one(api.Type{Kind: api.TypeData, Hi: 64})
	draws(t, long, nil, append([]int{64}, slices.Repeat([]int{97}, 64)...), data(strings.Repeat("a", 64)))
	draws(t, long, nil, []int{65}, data(""))
}

// TestExhausted: all further draws are 0.
func TestExhausted(t *testing.T) {
	x := sample(t)
	for n, y := range x.Types {
		a, e := gen.Arg(x, n, api.Program{step(cMake)}, draw.New(nil))
		want, _ := prog.Default(x, n)
		switch y.Kind {
		case api.TypePtr:
			want.Kids = nil
		case api.TypeRes:
			if y.Of == "fd" {
				want = ref(0)
			}
		case api.TypeArray, api.TypeStruct, api.TypeUnion:
			continue
		}
		if e != api.OK || !reflect.DeepEqual(trimArgs([]api.Arg{a}), trimArgs([]api.Arg{want})) {
			t.Errorf("%+v: %+v, %v, want %+v", y, a, e, want)
		}
	}
}

// unmade is draws that no call made.
func unmade() []*draw.Draws { return []*draw.Draws{nil, {}} }

// wrongs is programs that are none of sample's, with the number that says why.
func wrongs() map[api.Errno]api.Program {
	return map[api.Errno]api.Program{
		api.ErrFull:  make(api.Program, api.MaxCalls+1),
		api.ErrCall:  {step(5)},
		api.ErrCount: {step(cFork), step(cMake, value(0))},
		api.ErrKind:  {step(cIn, value(0), value(0), value(0))},
		api.ErrValue: {step(cPlain, value(0), value(-2), value(0), value(0), value(7))},
		api.ErrRef:   {step(cFork), step(cPlain, value(1), value(-2), value(0), ref(0), value(7))},
		api.ErrLen:   {step(cIn, value(1), ptr(), value(0))},
	}
}

// badTable is one that may not be.
func badTable() api.Table {
	return api.Table{Types: []api.Type{{Kind: api.TypeInt, Size: 3}}, Calls: []api.Call{{}}}
}

func badArg(t *testing.T, x api.Table, n int, p api.Program, d *draw.Draws, why api.Errno) {
	t.Helper()
	used := d.Used()
	if a, e := gen.Arg(x, n, p, d); !reflect.DeepEqual(a, api.Arg{}) || e != why || d.Used() != used {
		t.Errorf("%d, %+v: %+v, %v, %d used, want %v", n, p, a, e, d.Used(), why)
	}
}

// TestArgErrors: P20.1, each error, and which one is first.
func TestArgErrors(t *testing.T) {
	x := sample(t)
	wrong := api.Program{step(5)}
	for _, d := range unmade() {
		badArg(t, x, 0, nil, d, api.ErrNil)
		badArg(t, badTable(), -1, wrong, d, api.ErrNil)
	}
	d := draw.New([]int{1, 1, 1})
	badArg(t, badTable(), 0, nil, d, api.ErrArg)
	badArg(t, badTable(), 0, wrong, d, api.ErrArg)
	for _, n := range []int{-1, len(x.Types), math.MinInt, math.MaxInt} {
		badArg(t, x, n, nil, d, api.ErrArg)
		badArg(t, x, n, wrong, d, api.ErrArg)
	}
	badArg(t, api.Table{}, 0, nil, d, api.ErrArg)
	for why, p := range wrongs() {
		badArg(t, x, 0, p, d, why)
	}
	if _, e := gen.Arg(x, 0, make(api.Program, api.MaxCalls), d); e != api.OK {
		t.Error("behind a full program:", e)
	}
}

func badStep(t *testing.T, x api.Table, call int, p api.Program, d *draw.Draws, why api.Errno) {
	t.Helper()
	used := d.Used()
	if s, e := gen.Step(x, call, p, d); !reflect.DeepEqual(s, api.Step{}) || e != why || d.Used() != used {
		t.Errorf("%d, %+v: %+v, %v, %d used, want %v", call, p, s, e, d.Used(), why)
	}
}

// TestStepErrors: likewise.
func TestStepErrors(t *testing.T) {
	x := sample(t)
	full := make(api.Program, api.MaxCalls)
	for _, d := range unmade() {
		badStep(t, x, 0, nil, d, api.ErrNil)
		badStep(t, badTable(), -1, api.Program{step(5)}, d, api.ErrNil)
		badStep(t, x, 0, full, d, api.ErrNil)
	}
	d := draw.New([]int{1, 1, 1})
	badStep(t, badTable(), 0, nil, d, api.ErrArg)
	badStep(t, badTable(), 7, full, d, api.ErrArg)
	for why, p := range wrongs() {
		badStep(t, x, 0, p, d, why)
		badStep(t, x, 9, p, d, why)
	}
	for _, call := range []int{-1, len(x.Calls), math.MinInt, math.MaxInt} {
		badStep(t, x, call, nil, d, api.ErrCall)
		badStep(t, x, call, full, d, api.ErrCall)
	}
	badStep(t, api.Table{}, 0, nil, d, api.ErrCall)
	for call := range x.Calls {
		badStep(t, x, call, full, d, api.ErrFull)
	}
	if s, e := gen.Step(x, cMake, full[1:], d); e != api.OK || s.Call != cMake || len(s.Args) != 0 {
		t.Error(s, e)
	}
}

// steps asks for what Step draws by just those draws; behind p it must be a program.
func steps(t *testing.T, x api.Table, p api.Program, l []int, want api.Step) {
	t.Helper()
	d := draw.New(append(slices.Clone(l), left))
	s, e := gen.Step(x, want.Call, p, d)
	if e != api.OK || !reflect.DeepEqual(trim(api.Program{s}), trim(api.Program{want})) || d.Used() != len(l) {
		t.Errorf("%v behind %+v: %+v, %v, %d used, want %+v", l, p, s, e, d.Used(), want)
	}
	if e := prog.Check(x, append(p[:len(p):len(p)], s)); e != nil {
		t.Errorf("%+v behind %+v: %v", s, p, e)
	}
}

// TestStep: its arguments in order, then the lengths.
func TestStep(t *testing.T) {
	x := sample(t)
	p := api.Program{step(cMake), step(cFork), step(cOut, ptr(), ptr(ref(0)), value(0))}
	steps(t, x, nil, nil, step(cMake))
	steps(t, x, p, nil, step(cFork))
	steps(t, x, p, []int{2, 3, 1, 0, 1, 1, 0}, step(cPlain, value(4), value(-2), value(5), ref(2), ref(1)))
	steps(t, x, nil, []int{0, 1, 1, 1, 0, 1, 5, 5}, step(cPlain, value(1), value(-2), value(7), value(0), value(7)))
	steps(t, x, p, []int{0}, step(cIn, value(0), ptr(), value(0)))
	steps(t, x, p, []int{1, 0, 0}, step(cIn, value(3), ptr(part(0, data("/a"))), value(3)))
	steps(t, x, p, []int{1, 0, 1}, step(cIn, value(1), ptr(part(0, data(""))), value(1)))
	steps(t, x, p, []int{1, 1, 2, 65, 66, 1}, step(cIn, value(8), ptr(part(1, group(value(2), data("AB"), ref(2)))), value(8)))
	steps(t, x, p, []int{7, 2, 1}, step(cIn, value(8), ptr(part(2, value(1<<31))), value(8)))
	steps(t, x, p, []int{5, 1, 0, 2, 0, 3, 67, 68, 69, 2, 1, 4, 0},
		step(cOut, ptr(group(group(value(0), data(""), value(-1)), group(value(3), data("CDE"), value(0)))), ptr(ref(0)), value(15)))
}

// programs asks for what Program draws by just those draws.
func programs(t *testing.T, x api.Table, c *draw.Choice, l []int, n int, want api.Program) {
	t.Helper()
	d := draw.New(append(slices.Clone(l), left))
	p, e := gen.Program(x, c, d, n)
	if e != api.OK || !reflect.DeepEqual(trim(p), trim(want)) || d.Used() != len(l) {
		t.Errorf("%v: %+v, %v, %d used, want %+v", l, p, e, d.Used(), want)
	}
	if e := prog.Check(x, p); e != nil {
		t.Errorf("%v: %+v, %v", l, p, e)
	}
}

// TestProgram: how many, then each call and its arguments.
func TestProgram(t *testing.T) {
	x := sample(t)
	c := draw.Weigh(x, []api.Program{{step(cFork), step(cMake)}})
	// Weights: 1 3 1 1 1 at first; 3 1 5 1 1 behind fork; 1 1 5 1 5 behind make; 1 each behind plain.
	programs(t, x, c, []int{6, 3, 8, 2, 4, 1, 0, 0, 0, 0, 0, 11}, 4,
		api.Program{step(cFork), step(cPlain, value(5), value(-2), value(1), value(-1), ref(0)), step(cFork)})
	programs(t, x, c, []int{1, 0, 2, 0, 1, 1, 0, 0, 0, 2}, 2,
		api.Program{step(cMake), step(cPlain, value(1), value(-2), value(3), ref(0), value(7))})
	programs(t, x, c, []int{2, 0, 12, 1, 0, 4, 'a', 'b', 'c', 'd', 0, 1, 1, 1, 12, 0, 7, 1}, 7,
		api.Program{step(cMake), step(cOut, ptr(group(group(value(4), data("abcd"), ref(0)))), ptr(value(0)), value(10)), step(cOut, ptr(), ptr(ref(1)), value(0))})
}

// TestProgramOfLiked: what stood behind a call in programs that are liked is drawn by more draws.
func TestProgramOfLiked(t *testing.T) {
	x := sample(t)
	programs(t, x, draw.Weigh(x, []api.Program{{step(cFork), step(cMake)}}), []int{1, 2, 2}, 2, api.Program{step(cFork), step(cMake)})
	programs(t, x, draw.Weigh(x, nil), []int{1, 1, 1}, 2, api.Program{step(cFork), step(cFork)})
}

// TestBound: P20.3, at most n steps; below 0 as 0, above MaxCalls as that.
func TestBound(t *testing.T) {
	x := api.Table{Calls: []api.Call{{}}}
	c := draw.Weigh(x, nil)
	for _, b := range []struct{ n, number, want int }{
		{0, 5, 0}, {-1, 5, 0}, {math.MinInt, 5, 0},
		{1, 5, 1}, {2, 5, 2}, {2, 4, 1}, {63, 62, 63}, {64, 63, 64}, {64, 64, 1}, {65, 63, 64}, {65, 64, 1}, {math.MaxInt, 63, 64}, {math.MaxInt, 127, 64}, {10, -1, 6},
	} {
		d := draw.New([]int{b.number})
		if p, e := gen.Program(x, c, d, b.n); e != api.OK || len(p) != b.want || d.Used() != min(1, max(0, b.n)) {
			t.Errorf("%+v: %d steps, %v, %d used", b, len(p), e, d.Used())
		}
	}
	none := api.Table{Types: []api.Type{{Kind: api.TypeConst, Size: 1}}}
	for _, n := range []int{0, 1, 64, math.MaxInt, -1} {
		d := draw.New([]int{1, 2})
		if p, e := gen.Program(none, draw.Weigh(none, nil), d, n); e != api.OK || len(p) != 0 || d.Used() != 0 {
			t.Error("without calls:", n, p, e, d.Used())
		}
	}
}

// TestWithoutDraws: P20.4.
func TestWithoutDraws(t *testing.T) {
	x, e := types.Compile("resource fd[int32]: 3, 4\ncall f(0)(a ptr[in, data[1, 2]], n len[a, int8], i int8[2, 4], r fd, q ptr[out, fd])\ncall g(1)() fd")
	if e != nil {
		t.Fatal(e)
	}
	want := api.Program{step(0, ptr(), value(0), value(2), value(3), ptr())}
	for _, n := range []int{1, 5, 64} {
		if p, e := gen.Program(x, draw.Weigh(x, nil), draw.New(nil), n); e != api.OK || !reflect.DeepEqual(trim(p), trim(want)) {
			t.Error(n, p, e)
		}
	}
	if p, e := gen.Program(x, draw.Weigh(x, nil), draw.New([]int{63}), 64); e != api.OK || !reflect.DeepEqual(trim(p), trim(slices.Repeat(want, 64))) {
		t.Error(p, e)
	}
}

func badProgram(t *testing.T, x api.Table, c *draw.Choice, d *draw.Draws, n int, why api.Errno) {
	t.Helper()
	used := d.Used()
	if p, e := gen.Program(x, c, d, n); len(p) != 0 || e != why || d.Used() != used {
		t.Errorf("%d: %+v, %v, %d used, want %v", n, p, e, d.Used(), why)
	}
}

// TestProgramErrors: P20.1.
func TestProgramErrors(t *testing.T) {
	x := sample(t)
	c, d := draw.Weigh(x, nil), draw.New([]int{1, 1, 1})
	choices := []*draw.Choice{nil, {}}
	for _, n := range []int{-1, 0, 5, 100} {
		for _, bad := range unmade() {
			badProgram(t, x, c, bad, n, api.ErrNil)
			badProgram(t, badTable(), nil, bad, n, api.ErrNil)
		}
		for _, bad := range choices {
			badProgram(t, x, bad, d, n, api.ErrNil)
			badProgram(t, badTable(), bad, d, n, api.ErrNil)
			badProgram(t, api.Table{}, bad, d, n, api.ErrNil)
		}
		badProgram(t, badTable(), draw.Weigh(badTable(), nil), d, n, api.ErrArg)
		for _, calls := range []int{0, 1, len(x.Calls) - 1, len(x.Calls) + 1, 64, 1000} {
			badProgram(t, x, draw.Weigh(api.Table{Calls: make([]api.Call, calls)}, nil), d, n, api.ErrArg)
		}
		badProgram(t, api.Table{}, c, d, n, api.ErrArg)
		badProgram(t, api.Table{Types: x.Types}, c, d, n, api.ErrArg)
	}
	// Of another table with as many calls it may be.
	if p, e := gen.Program(x, draw.Weigh(api.Table{Calls: make([]api.Call, len(x.Calls))}, nil), d, 3); e != api.OK || prog.Check(x, p) != nil {
		t.Error(p, e)
	}
	if p, e := gen.Program(api.Table{}, draw.Weigh(api.Table{}, nil), d, 3); e != api.OK || len(p) != 0 {
		t.Error(p, e)
	}
}

// TestGreat: the greatest steps of the greatest types, each with a length to mend.
func TestGreat(t *testing.T) {
	x := api.Table{Types: []api.Type{{Kind: api.TypeLen, Size: 1, Of: "n0"}, {Kind: api.TypeData, Hi: 64}, {Kind: api.TypeStruct}}}
	for i := range 298 {
		x.Types[2].Elems, x.Types[2].Names = append(x.Types[2].Elems, 0), append(x.Types[2].Names, fmt.Sprint("m", i))
	}
	x.Types[2].Elems, x.Types[2].Names = append(x.Types[2].Elems, 1), append(x.Types[2].Names, "n0")
	c := api.Call{Args: slices.Repeat([]int{2}, 6), Names: []string{"a", "b", "c", "d", "e", "f"}}
	x.Calls = slices.Repeat([]api.Call{c}, 64)
	if !prog.Can(x) {
		t.Fatal("a table that may not be")
	}
	n := numbers(9)
	var l []int
	for range 30000 {
		l = append(l, n.next(1<<31))
	}
	l[0] = 63
	p, e := gen.Program(x, draw.Weigh(x, nil), draw.New(l), 64)
	if e != api.OK || len(p) != 64 || prog.Check(x, p) != nil {
		t.Fatal(len(p), e)
	}
	if q, e := layout.Fix(x, p); e != api.OK || !prog.Same(p, q) {
		t.Fatal(e)
	}
}
