package layout_test

import (
	"errors"
	"reflect"
	"slices"
	"strings"
	"testing"

	"dredger/api"
	"dredger/layout"
	"dredger/prog"
	"dredger/types"
)

// maker makes tables and programs.
type maker struct{ *numbers }

func (m maker) name() string { return pick(m.numbers, "a", "b", "c") }

// typed is a type made of those ahead, of which any may stand anywhere.
func (m maker) typed(ahead int) api.Type {
	y := api.Type{Kind: pick(m.numbers, 1+m.next(11), api.TypePtr, api.TypeData, api.TypeStruct)}
	if ahead == 0 && y.Kind >= api.TypePtr && y.Kind <= api.TypeUnion {
		y.Kind = api.TypeRes
	}
	if y.Kind <= api.TypeRes {
		y.Size = pick(m.numbers, 1, 2, 4, 8)
	}
	count := 0
	switch y.Kind {
	case api.TypeInt:
		y.Lo, y.Hi = -m.next(1000), m.next(100000)
	case api.TypeConst:
		y.Lo = m.next(100) - 50
	case api.TypeFlags:
		y.Values = []int{1, 8, 512}
	case api.TypeLen:
		y.Of = m.name()
	case api.TypeRes:
		y.Of, y.Values = pick(m.numbers, "r", "s"), []int{m.next(9) - 4, 7}
	case api.TypePtr:
		count, y.Size, y.Dir = 1, 8, 1+m.next(3)
	case api.TypeArray:
		count, y.Hi = 1, m.next(4)
	case api.TypeStruct, api.TypeUnion:
		count = 1 + m.next(4)
	case api.TypeText:
		y.Texts = []string{"", "/a", strings.Repeat("y", m.next(25))}
	case api.TypeData:
		y.Hi = m.next(65)
	}
	for range count {
		y.Elems = append(y.Elems, max(m.next(ahead), m.next(ahead)))
		if y.Kind >= api.TypeStruct {
			y.Names = append(y.Names, m.name())
		}
	}
	return y
}

// table is one that may be.
func (m maker) table() api.Table {
	for {
		var t api.Table
		for i := range 1 + m.next(14) {
			t.Types = append(t.Types, m.typed(i))
		}
		for i := range 1 + m.next(5) {
			c := api.Call{Number: m.next(64), Ret: []string{"r", "s", ""}[min(i, 2)]}
			for range m.next(7) {
				c.Args, c.Names = append(c.Args, max(m.next(len(t.Types)), m.next(len(t.Types)))), append(c.Names, m.name())
			}
			t.Calls = append(t.Calls, c)
		}
		if prog.Can(t) {
			return t
		}
	}
}

// arg is an argument of a type, behind a program; lengths are any.
func (m maker) arg(t api.Table, n int, p api.Program) api.Arg {
	y := t.Types[n]
	switch y.Kind {
	case api.TypeInt:
		return value(y.Lo + m.next(y.Hi-y.Lo+1))
	case api.TypeConst:
		return value(y.Lo)
	case api.TypeFlags:
		return value(pick(m.numbers, y.Values...) | pick(m.numbers, y.Values...))
	case api.TypeLen:
		return value(m.next(9) - 2)
	case api.TypeRes:
		for i, s := range slices.Backward(p) {
			if t.Calls[s.Call].Ret == y.Of && m.next(3) > 0 {
				return ref(i)
			}
		}
		return value(pick(m.numbers, y.Values...))
	case api.TypePtr:
		if m.next(5) == 0 {
			return ptr()
		}
		return ptr(m.arg(t, y.Elems[0], p))
	case api.TypeUnion:
		k := m.next(len(y.Elems))
		return part(k, m.arg(t, y.Elems[k], p))
	case api.TypeText:
		return data(pick(m.numbers, y.Texts...))
	case api.TypeData:
		return data(strings.Repeat("d", y.Lo+m.next(y.Hi-y.Lo+1)))
	}
	elems := y.Elems
	if y.Kind == api.TypeArray {
		elems = slices.Repeat(elems, y.Lo+m.next(y.Hi-y.Lo+1))
	}
	a := group()
	for _, k := range elems {
		a.Kids = append(a.Kids, m.arg(t, k, p))
	}
	return a
}

// program is one of a table but for lengths.
func (m maker) program(t api.Table, most int) (p api.Program) {
	for range m.next(most + 1) {
		s := step(m.next(len(t.Calls)))
		for _, n := range t.Calls[s.Call].Args {
			s.Args = append(s.Args, m.arg(t, n, p))
		}
		p = append(p, s)
	}
	return p
}

// mended is a program all of whose lengths are right.
func mended(t api.Table, p api.Program) api.Program {
	q := trim(p)
	for _, s := range q {
		c := t.Calls[s.Call]
		(&model{t: t}).mend(c.Args, c.Names, s.Args)
	}
	return q
}

// apart asks whether what is laid lies within the memory, at addresses that 8 divides, and no two overlap; results lie within bytes of the same call, where noughts are.
func apart(t *testing.T, l []api.Exec) {
	t.Helper()
	var taken [2048]int
	for i, x := range l {
		for _, c := range x.Copies {
			last := api.Copy{}
			if c.Ref < 0 {
				if c.Addr%8 != 0 || c.Addr < 4096 || c.Addr+len(c.Bytes) > 6144 || len(c.Bytes) == 0 || c.Ref != -1 || c.Size != 0 || c.Value != 0 {
					t.Fatalf("%+v", c)
				}
				for k := range c.Bytes {
					if taken[c.Addr-4096+k]++; taken[c.Addr-4096+k] > 1 {
						t.Fatalf("%+v overlaps another one", c)
					}
				}
				continue
			}
			for _, b := range x.Copies {
				if b.Ref < 0 && b.Addr <= c.Addr && c.Addr < b.Addr+len(b.Bytes) {
					last = b
				}
			}
			if c.Ref >= i || len(c.Bytes) > 0 || c.Addr+c.Size > last.Addr+len(last.Bytes) || strings.Trim(string(last.Bytes[c.Addr-last.Addr:][:c.Size]), "\x00") != "" {
				t.Fatalf("%+v in %+v", c, last)
			}
		}
	}
}

// compare asks of a program that is right but for lengths whether Fix and Lay tell what the model does.
func compare(t *testing.T, x api.Table, p api.Program) api.Errno {
	t.Helper()
	before := trim(p)
	want := mended(x, p)
	q, e := layout.Fix(x, p)
	if e != api.OK || !reflect.DeepEqual(trim(q), want) || prog.Check(x, q) != nil {
		t.Fatalf("%+v, %+v: %+v, %v, want %+v", x, p, q, e, want)
	}
	if again, e := layout.Fix(x, q); e != api.OK || !prog.Same(again, q) {
		t.Fatalf("%+v, %+v: fixed again %+v, %v", x, q, again, e)
	}
	if _, e := layout.Lay(x, p); !prog.Same(p, q) && e != api.ErrLen {
		t.Fatalf("%+v, %+v: %v", x, p, e)
	}
	l, e := layout.Lay(x, q)
	execs, ok := modelLay(x, q)
	if ok != (e == api.OK) || !ok && e != api.ErrRoom || !reflect.DeepEqual(trimExecs(l), trimExecs(execs)) {
		t.Fatalf("%+v, %+v: %+v, %v, want %+v", x, q, l, e, execs)
	}
	apart(t, l)
	if !reflect.DeepEqual(trim(p), before) {
		t.Fatalf("%+v was %+v", p, before)
	}
	return e
}

// TestCompare: tables made by hand, in which anything may stand anywhere.
func TestCompare(t *testing.T) {
	n := numbers(1)
	met := map[api.Errno]int{}
	for i := range 9000 {
		m := maker{&n}
		x := m.table()
		met[compare(t, x, m.program(x, []int{3, 8, 64}[i%3]))]++
	}
	if met[api.OK] < 3000 || met[api.ErrRoom] < 200 {
		t.Error(met)
	}
}

// TestCompareCompiled: tables of descriptions.
func TestCompareCompiled(t *testing.T) {
	n := numbers(2)
	for _, s := range []string{
		description,
		"resource fd[int8]: 5\ncall make(0)() fd\ncall use(1)(p ptr[inout, array[s, 0, 8]], n len[p, int16])\nstruct s { a array[fd, 0, 3], n len[a, int8], u u }\nunion u { a fd, b data[0, 9], c text[\"\", \"/a/b\"] }",
		"call f(0)(a ptr[in, text[\"/a\"]], b ptr[in, text[\"/b\"]], c ptr[out, data[12]], n len[c, int32])",
	} {
		x, e := types.Compile(s)
		if e != nil {
			t.Fatal(e)
		}
		for range 2000 {
			m := maker{&n}
			compare(t, x, m.program(x, 12))
		}
	}
}

// spoil changes one argument somewhere in a program, or a call.
func (m maker) spoil(p api.Program) {
	if len(p) == 0 {
		return
	}
	s := &p[m.next(len(p))]
	if len(s.Args) == 0 || m.next(10) == 0 {
		*s = pick(m.numbers, step(m.next(7)-1, s.Args...), step(s.Call, s.Args[:len(s.Args)/2]...))
		return
	}
	a := &s.Args[m.next(len(s.Args))]
	for len(a.Kids) > 0 && m.next(3) > 0 {
		a = &a.Kids[m.next(len(a.Kids))]
	}
	switch m.next(4) {
	case 0:
		a.Kind = m.next(8)
	case 1:
		a.Value = m.next(9) - 3
	case 2:
		a.Bytes = append(a.Bytes, make([]byte, m.next(70))...)
	case 3:
		a.Kids = pick(m.numbers, nil, append(a.Kids, value(0)), append(a.Kids, group(value(1), value(1), value(1)), ptr()))
	}
}

// fixedByFaults is Fix another way: the first wrong length's step is mended, over and over.
func fixedByFaults(t api.Table, p api.Program) (api.Program, api.Errno) {
	q := trim(p)
	for {
		var f api.Fault
		if !errors.As(prog.Check(t, q), &f) {
			return q, api.OK
		}
		if f.Why != api.ErrLen {
			return nil, f.Why
		}
		s := q[f.At]
		(&model{t: t}).mend(t.Calls[s.Call].Args, t.Calls[s.Call].Names, s.Args)
	}
}

// TestCompareWrong: programs that are wrong in more than lengths.
func TestCompareWrong(t *testing.T) {
	n := numbers(3)
	met := map[api.Errno]int{}
	for i := range 15000 {
		m := maker{&n}
		x := m.table()
		if i%3 == 0 {
			x = sample(t)
		}
		p := m.program(x, 8)
		for range m.next(4) {
			m.spoil(p)
		}
		before := trim(p)
		want, why := fixedByFaults(x, p)
		q, e := layout.Fix(x, p)
		if e != why || !reflect.DeepEqual(trim(q), trim(want)) || !reflect.DeepEqual(trim(p), before) {
			t.Fatalf("%+v, %+v: %+v, %v, want %+v, %v", x, before, q, e, want, why)
		}
		var f api.Fault
		if errors.As(prog.Check(x, p), &f) {
			if l, e := layout.Lay(x, p); l != nil || e != f.Why {
				t.Fatalf("%+v, %+v: %+v, %v, want %v", x, p, l, e, f.Why)
			}
		}
		met[e]++
	}
	for _, why := range []api.Errno{api.OK, api.ErrCall, api.ErrCount, api.ErrKind, api.ErrValue, api.ErrRef} {
		if met[why] < 40 {
			t.Errorf("too few of %v: %v", why, met)
		}
	}
	if met[api.ErrLen] > 0 || len(met) != 6 {
		t.Error(met)
	}
}
