package mutate_test

import (
	"math"
	"strings"
	"testing"

	"dredger/api"
	"dredger/binary"
	"dredger/draw"
	"dredger/gen"
	"dredger/layout"
	"dredger/prog"
	"dredger/text"
	"dredger/types"
)

// numbers is a source of the same numbers each time.
type numbers uint64

func (n *numbers) next(below int) int {
	*n = *n*6364136223846793005 + 1442695040888963407
	return int(uint64(*n)>>33) % below
}

// pick is one of a list.
func pick[T any](n *numbers, list ...T) T { return list[n.next(len(list))] }

// script is draws: small and great numbers, and few or many of them.
func script(n *numbers) (l []int) {
	for range pick(n, 0, n.next(10), n.next(100), 500) {
		v := n.next(1<<31)<<33 ^ n.next(1<<31)<<11 ^ n.next(1<<31)
		l = append(l, pick(n, v, n.next(300), n.next(8), -1-n.next(8), math.MinInt, math.MaxInt))
	}
	return l
}

// maker makes tables.
type maker struct{ *numbers }

func (m maker) name() string { return pick(m.numbers, "a", "b", "c") }

// typed is a type made of those ahead, of which any may stand anywhere.
func (m maker) typed(ahead int) api.Type {
	y := api.Type{Kind: pick(m.numbers, 1+m.next(11), 1+m.next(11), api.TypeRes, api.TypePtr, api.TypeStruct)}
	if ahead == 0 && y.Kind >= api.TypePtr && y.Kind <= api.TypeUnion {
		y.Kind = api.TypeRes
	}
	if y.Kind <= api.TypeRes {
		y.Size = pick(m.numbers, 1, 2, 4, 8)
	}
	count := 0
	switch y.Kind {
	case api.TypeInt:
		y.Lo, y.Hi = -m.next(1000), m.next(1000)
	case api.TypeConst:
		y.Lo = m.next(100) - 50
	case api.TypeFlags:
		y.Values = []int{1, 8, 512, 3, -1}[:m.next(6)]
	case api.TypeLen:
		y.Of = m.name()
	case api.TypeRes:
		y.Of, y.Values = pick(m.numbers, "r", "s", "r", "s", ""), []int{m.next(9) - 4, 7, 8}[:1+m.next(3)]
	case api.TypePtr:
		count, y.Size, y.Dir = 1, 8, 1+m.next(3)
	case api.TypeArray:
		count, y.Hi = 1, m.next(5)
		y.Lo = m.next(y.Hi + 1)
	case api.TypeStruct, api.TypeUnion:
		count = 1 + m.next(4)
	case api.TypeText:
		y.Texts = []string{"/a", "", strings.Repeat("y", m.next(25))}[:1+m.next(3)]
	case api.TypeData:
		y.Hi = m.next(65)
		y.Lo = m.next(y.Hi + 1)
	}
	for range count {
		y.Elems = append(y.Elems, max(m.next(ahead), m.next(ahead)))
		if y.Kind >= api.TypeStruct {
			y.Names = append(y.Names, m.name())
		}
	}
	return y
}

// table is one that may be.
func (m maker) table() api.Table {
	for {
		var t api.Table
		for i := range 1 + m.next(14) {
			t.Types = append(t.Types, m.typed(i))
		}
		for range m.next(6) {
			c := api.Call{Number: m.next(64), Ret: pick(m.numbers, "r", "s", "")}
			for range m.next(7) {
				c.Args, c.Names = append(c.Args, max(m.next(len(t.Types)), m.next(len(t.Types)))), append(c.Names, m.name())
			}
			t.Calls = append(t.Calls, c)
		}
		if prog.Can(t) {
			return t
		}
	}
}

// met is how often each mutation changed a program.
type met map[string]int

// compare asks of draws whether all calls tell what the model does, and take as many; what Mutate came to.
func (k met) compare(t *testing.T, x api.Table, p, q api.Program, l []int, most int) api.Program {
	t.Helper()
	c := draw.Weigh(x, []api.Program{p, q})
	check := func(name string, f mutation, want func(m *model) api.Program) api.Program {
		t.Helper()
		d, m := draw.New(l), &model{t: x, c: c, rest: l}
		before := trim(p)
		r, e := f(d)
		if w := want(m); e != api.OK || !same(r, w) || d.Used() != m.taken {
			t.Fatalf("%s of %+v, %v, %d: %+v, %v, %d used, want %+v, %d", name, x, l, most, r, e, d.Used(), w, m.taken)
		}
		if e := prog.Check(x, r); e != nil || len(r) > max(min(most, 64), len(p)) {
			t.Fatalf("%s of %+v, %+v: %+v, %v", name, x, p, r, e)
		}
		if !same(p, before) {
			t.Fatalf("%s: %+v was %+v", name, p, before)
		}
		if !same(r, p) {
			k[name]++
		}
		return r
	}
	check("insert", insert(x, c, p, most), func(m *model) api.Program { return m.insert(p, most) })
	check("remove", remove(x, p), func(m *model) api.Program { return m.remove(p) })
	check("change", change(x, p), func(m *model) api.Program { return m.change(p) })
	check("splice", splice(x, p, q, most), func(m *model) api.Program { return m.splice(p, q, most) })
	return check("mutate", drawn(x, c, p, q, most), func(m *model) api.Program { return m.mutate(p, q, most) })
}

func (k met) enough(t *testing.T, least int) {
	t.Helper()
	for _, name := range []string{"insert", "remove", "change", "splice", "mutate"} {
		if k[name] < least {
			t.Errorf("too few that changed something: %v", k)
		}
	}
}

// program is one of at most so many steps, of which there are many as often as few.
func program(t *testing.T, n *numbers, x api.Table, most int) api.Program {
	t.Helper()
	l := append([]int{n.next(1 << 20)}, script(n)...)
	p, e := gen.Program(x, draw.Weigh(x, nil), draw.New(l), most)
	if e != api.OK {
		t.Fatal(e)
	}
	return p
}

// TestCompare: P21.6, P21.7 of tables made by hand, in which anything may stand anywhere.
func TestCompare(t *testing.T) {
	n := numbers(1)
	k := met{}
	for range 3000 {
		x := maker{&n}.table()
		p, q := program(t, &n, x, pick(&n, 0, 5, 20, 64)), program(t, &n, x, pick(&n, 0, 5, 20, 64))
		k.compare(t, x, p, q, script(&n), pick(&n, len(p), len(p)+1, n.next(20), n.next(80)-5, math.MaxInt, math.MinInt))
	}
	k.enough(t, 800)
}

// TestCompareAgain: P1, P2 of a table of a description: mutated again and again, with every bound.
func TestCompareAgain(t *testing.T) {
	x := sample(t)
	n := numbers(2)
	k := met{}
	longest := 0
	for most := range 65 {
		p := program(t, &n, x, most)
		for range 30 {
			p = k.compare(t, x, p, program(t, &n, x, pick(&n, 1, 2, 64)), append([]int{n.next(4), n.next(64)}, script(&n)...), most)
			longest = max(longest, len(p))
			if len(p) > most {
				t.Fatalf("%d of %d", len(p), most)
			}
			there(t, x, p)
		}
	}
	k.enough(t, 300)
	if longest != 64 {
		t.Error(longest)
	}
}

// there asks whether a program's text is read as it, and its bytes as what it is laid out to.
func there(t *testing.T, x api.Table, p api.Program) {
	t.Helper()
	s, e := text.Print(x, p)
	if q, bad := text.Parse(x, s); e != api.OK || bad != nil || !same(p, q) {
		t.Fatalf("%+v: %q, %v; %+v, %v", p, s, e, q, bad)
	}
	l, e := layout.Lay(x, p)
	if e == api.ErrRoom {
		return
	}
	b, why := binary.Encode(l)
	again, bad := binary.Decode(b)
	if bytes, _ := binary.Encode(again); e != api.OK || why != api.OK || bad != api.OK || string(bytes) != string(b) {
		t.Fatalf("%+v: %v, %v, %v", p, e, why, bad)
	}
}

// TestShort: all short lists of small draws.
func TestShort(t *testing.T) {
	x, e := types.Compile("resource fd[int32]: -1, 0\ncall make(1)(n int8[1, 3]) fd\ncall use(2)(n len[p, int8], p ptr[in, data[0, 2]], r fd)\ncall none(3)()")
	if e != nil {
		t.Fatal(e)
	}
	p := api.Program{step(0, value(2)), step(1, value(2), ptr(data("ab")), ref(0)), step(2)}
	k := met{}
	for code := range 4 * 4 * 4 * 4 * 4 {
		var l []int
		for rest := code; rest > 0; rest /= 4 {
			l = append(l, rest%4)
		}
		for _, most := range []int{0, 3, 4, 9} {
			k.compare(t, x, p, p[:2], l, most)
			k.compare(t, x, p[:1], p, l, most)
		}
	}
	k.enough(t, 500)
}
