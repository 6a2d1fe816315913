package gen_test

import (
	"math"
	"reflect"
	"strings"
	"testing"

	"dredger/api"
	"dredger/binary"
	"dredger/draw"
	"dredger/gen"
	"dredger/layout"
	"dredger/prog"
	"dredger/text"
	"dredger/types"
)

// numbers is a source of the same numbers each time.
type numbers uint64

func (n *numbers) next(below int) int {
	*n = *n*6364136223846793005 + 1442695040888963407
	return int(uint64(*n)>>33) % below
}

// pick is one of a list.
func pick[T any](n *numbers, list ...T) T { return list[n.next(len(list))] }

// script is draws: small and great numbers, and few or many of them.
func script(n *numbers) (l []int) {
	for range pick(n, 0, n.next(10), n.next(100), 2000) {
		v := n.next(1<<31)<<33 ^ n.next(1<<31)<<11 ^ n.next(1<<31)
		l = append(l, pick(n, v, n.next(300), n.next(8), -1-n.next(8), math.MinInt, math.MaxInt))
	}
	return l
}

// maker makes tables.
type maker struct{ *numbers }

func (m maker) name() string { return pick(m.numbers, "a", "b", "c") }

// typed is a type made of those ahead, of which any may stand anywhere.
func (m maker) typed(ahead int) api.Type {
	y := api.Type{Kind: pick(m.numbers, 1+m.next(11), 1+m.next(11), api.TypePtr, api.TypeStruct)}
	if ahead == 0 && y.Kind >= api.TypePtr && y.Kind <= api.TypeUnion {
		y.Kind = api.TypeRes
	}
	if y.Kind <= api.TypeRes {
		y.Size = pick(m.numbers, 1, 2, 4, 8)
	}
	count := 0
	switch y.Kind {
	case api.TypeInt:
		lo := pick(m.numbers, 0, -m.next(1000), math.MinInt, -1<<31)
		y.Lo, y.Hi = lo, pick(m.numbers, lo, 0, m.next(1000), 1<<31-1, 1<<31, math.MaxInt)
	case api.TypeConst:
		y.Lo = m.next(100) - 50
	case api.TypeFlags:
		y.Values = []int{1, 8, 512, 3, -1}[:m.next(6)]
	case api.TypeLen:
		y.Of = m.name()
	case api.TypeRes:
		y.Of, y.Values = pick(m.numbers, "r", "s", ""), []int{m.next(9) - 4, 7, 8}[:1+m.next(3)]
	case api.TypePtr:
		count, y.Size, y.Dir = 1, 8, 1+m.next(3)
	case api.TypeArray:
		count, y.Hi = 1, m.next(5)
		y.Lo = m.next(y.Hi + 1)
	case api.TypeStruct, api.TypeUnion:
		count = 1 + m.next(4)
	case api.TypeText:
		y.Texts = []string{"/a", "", strings.Repeat("y", m.next(25))}[:1+m.next(3)]
	case api.TypeData:
		y.Hi = m.next(65)
		y.Lo = m.next(y.Hi + 1)
	}
	for range count {
		y.Elems = append(y.Elems, max(m.next(ahead), m.next(ahead)))
		if y.Kind >= api.TypeStruct {
			y.Names = append(y.Names, m.name())
		}
	}
	return y
}

// table is one that may be.
func (m maker) table() api.Table {
	for {
		var t api.Table
		for i := range 1 + m.next(14) {
			t.Types = append(t.Types, m.typed(i))
		}
		for range m.next(6) {
			c := api.Call{Number: m.next(64), Ret: pick(m.numbers, "r", "s", "")}
			for range m.next(7) {
				c.Args, c.Names = append(c.Args, max(m.next(len(t.Types)), m.next(len(t.Types)))), append(c.Names, m.name())
			}
			t.Calls = append(t.Calls, c)
		}
		if prog.Can(t) {
			return t
		}
	}
}

// compare asks of draws whether all three calls tell what the model does, and take as many.
func compare(t *testing.T, n *numbers, x api.Table, l []int, most int) api.Program {
	t.Helper()
	c := draw.Weigh(x, nil)
	d, m := draw.New(l), &model{t: x, rest: l}
	p, e := gen.Program(x, c, d, most)
	want := m.program(most, c.Weight)
	if e != api.OK || !reflect.DeepEqual(trim(p), trim(want)) || d.Used() != m.taken {
		t.Fatalf("%+v, %v, %d: %+v, %v, %d used, want %+v, %d", x, l, most, p, e, d.Used(), want, m.taken)
	}
	if e := prog.Check(x, p); e != nil || len(p) > max(most, 0) || len(p) > 64 || (len(p) == 0) != (most < 1 || len(x.Calls) == 0) {
		t.Fatalf("%+v, %d: %+v, %v", x, most, p, e)
	}
	place := n.next(len(x.Types))
	a, e := gen.Arg(x, place, p, d)
	if want := m.arg(place, p); e != api.OK || !reflect.DeepEqual(trimArgs([]api.Arg{a}), trimArgs([]api.Arg{want})) || d.Used() != m.taken {
		t.Fatalf("%+v, %v, %+v: %+v, %v, want %+v", x, l, p, a, e, want)
	}
	if len(p) == 0 || len(p) == 64 {
		return p
	}
	call := n.next(len(x.Calls))
	s, e := gen.Step(x, call, p, d)
	if want := m.step(call, p); e != api.OK || !reflect.DeepEqual(trim(api.Program{s}), trim(api.Program{want})) || d.Used() != m.taken {
		t.Fatalf("%+v, %v, %+v: %+v, %v, want %+v", x, l, p, s, e, want)
	}
	if e := prog.Check(x, append(p, s)); e != nil {
		t.Fatalf("%+v, %+v: %+v, %v", x, p, s, e)
	}
	return p
}

// TestCompare: P20.2, P20.3 of tables made by hand, in which anything may stand anywhere.
func TestCompare(t *testing.T) {
	n := numbers(1)
	met := map[int]int{}
	for range 6000 {
		x := maker{&n}.table()
		p := compare(t, &n, x, script(&n), pick(&n, n.next(5), n.next(20), n.next(80)-5))
		for i, s := range p {
			met[-len(prog.Uses(p, i))]++
			for _, a := range s.Args {
				met[a.Kind]++
			}
		}
	}
	for _, kind := range []int{-2, -1, api.ArgValue, api.ArgRef, api.ArgPtr, api.ArgGroup, api.ArgUnion, api.ArgData} {
		if met[kind] < 500 {
			t.Errorf("too few of %d: %v", kind, met)
		}
	}
}

// kernelCalls is a description of a kernel's calls.
const kernelCalls = `
resource fd[int32]: 0, -1
resource pid[int32]: 1
flags open = 1, 2, 4, 8, 16, 32
call open(0)(path ptr[in, text["/", "/a", "/a/b"]], flags flags[open, int32]) fd
call close(1)(f fd)
call read(2)(f fd, b ptr[out, data[0, 20]], n len[b, int32])
call write(3)(f fd, b ptr[in, data[0, 20]], n len[b, int32])
call seek(4)(f fd, o int32, w int8[0, 3])
call dup(5)(f fd) fd
call dup2(6)(f fd, g fd) fd
call stat(12)(p ptr[in, text["/a"]], b ptr[out, data[12]])
call pipe(14)(p ptr[out, array[fd, 2]])
call fork(15)() pid
call wait(17)(p ptr[inout, pid])
call kill(18)(p pid)
`

// TestCompareCompiled: P1 of tables of descriptions, with every bound, and P2 of what is drawn.
func TestCompareCompiled(t *testing.T) {
	n := numbers(2)
	room := map[api.Errno]int{}
	for _, s := range []string{description, kernelCalls} {
		x, e := types.Compile(s)
		if e != nil {
			t.Fatal(e)
		}
		for i := range 1300 {
			p := compare(t, &n, x, script(&n), i%65)
			s, e := text.Print(x, p)
			if q, bad := text.Parse(x, s); e != api.OK || bad != nil || !prog.Same(p, q) {
				t.Fatalf("%+v: %q, %v; %+v, %v", p, s, e, q, bad)
			}
			l, e := layout.Lay(x, p)
			if room[e]++; e == api.ErrRoom {
				continue
			}
			b, why := binary.Encode(l)
			again, bad := binary.Decode(b)
			if bytes, _ := binary.Encode(again); e != api.OK || why != api.OK || bad != api.OK || len(again) != len(l) || string(bytes) != string(b) {
				t.Fatalf("%+v: %v, %v, %v", p, e, why, bad)
			}
		}
	}
	if room[api.OK] < 1500 || len(room) > 2 {
		t.Error(room)
	}
}

// TestEachCallIsDrawn: P19.3, and each call behind each other one.
func TestEachCallIsDrawn(t *testing.T) {
	x, _ := types.Compile(kernelCalls)
	n := numbers(3)
	c := draw.Weigh(x, nil)
	met := map[[2]int]int{}
	for range 400 {
		p, _ := gen.Program(x, c, draw.New(append([]int{63}, script(&n)...)), 64)
		for i, s := range p[1:] {
			met[[2]int{p[i].Call, s.Call}]++
		}
	}
	if want := len(x.Calls) * len(x.Calls); len(met) != want {
		t.Errorf("%d pairs of %d", len(met), want)
	}
}

// TestShort: all short lists of small draws, of a table with all kinds.
func TestShort(t *testing.T) {
	x := sample(t)
	n := numbers(4)
	for code := range 5 * 5 * 5 * 5 * 5 * 5 {
		var l []int
		for rest := code; rest > 0; rest /= 5 {
			l = append(l, rest%5)
		}
		compare(t, &n, x, l, 3)
	}
}
