package prog_test

import (
	"fmt"
	"math"
	"slices"
	"strings"
	"testing"

	"dredger/api"
	"dredger/prog"
)

// maker makes tables and programs, with a slip now and then.
type maker struct {
	*numbers
	slips int // in how many of a thousand choices it slips
}

func (m maker) slip() bool { return m.next(1000) < m.slips }

func (m maker) name() string { return pick(m.numbers, "a", "b", "c", "d") }

func (m maker) extreme() int {
	return pick(m.numbers, -1, -2, 0, 1, 2, 3, 5, 9, 64, 65, 1<<31, math.MaxInt, math.MinInt)
}

// values is some numbers, one or more.
func (m maker) values() (l []int) {
	for range 1 + m.next(4) {
		l = append(l, pick(m.numbers, -1, 0, 1, 2, 3, 4, 6, 8, 24))
	}
	return l
}

// typed is a type made of those ahead, of which any may stand anywhere.
func (m maker) typed(ahead int) api.Type {
	n := m.numbers
	y := api.Type{Kind: 1 + m.next(11), Size: pick(n, 1, 2, 4, 8)}
	if ahead == 0 && y.Kind >= api.TypePtr && y.Kind <= api.TypeUnion {
		y.Kind = api.TypeData
	}
	count := 0
	switch y.Kind {
	case api.TypeInt:
		y.Lo = m.next(9) - 2
		y.Hi = y.Lo + m.next(4)
	case api.TypeConst:
		y.Lo = m.next(9) - 2
	case api.TypeFlags:
		if m.next(5) > 0 {
			y.Values = m.values()
		}
	case api.TypeLen:
		y.Of = m.name()
	case api.TypeRes:
		y.Of, y.Values = pick(n, "r", "s"), m.values()
	case api.TypePtr:
		count, y.Size, y.Dir = 1, 8, 1+m.next(3)
	case api.TypeArray:
		count, y.Lo = 1, m.next(3)
		y.Hi = y.Lo + m.next(3)
	case api.TypeStruct, api.TypeUnion:
		count = 1 + m.next(4)
	case api.TypeText:
		for range 1 + m.next(3) {
			y.Texts = append(y.Texts, pick(n, "", "/a", "x", strings.Repeat("y", 24)))
		}
	case api.TypeData:
		y.Lo = m.next(4)
		y.Hi = y.Lo + m.next(4)
	}
	for range count {
		y.Elems = append(y.Elems, max(m.next(ahead), m.next(ahead)))
		if y.Kind >= api.TypeStruct {
			y.Names = append(y.Names, m.name())
		}
	}
	m.spoilType(&y)
	return y
}

func (m maker) spoilType(y *api.Type) {
	for _, at := range []*int{&y.Kind, &y.Size, &y.Lo, &y.Hi, &y.Dir} {
		if m.slip() {
			*at = m.extreme()
		}
	}
	if m.slip() {
		y.Elems = pick(m.numbers, nil, []int{m.extreme()}, append(slices.Clone(y.Elems), m.next(5)))
	}
	if m.slip() {
		y.Names = pick(m.numbers, nil, append(slices.Clone(y.Names), "a"))
	}
	if m.slip() {
		y.Values = nil
	}
	if m.slip() {
		y.Texts = pick(m.numbers, nil, append(slices.Clone(y.Texts), strings.Repeat("z", 25)))
	}
}

func (m maker) table() (t api.Table) {
	for i := range 1 + m.next(12) {
		t.Types = append(t.Types, m.typed(i))
	}
	for range 1 + m.next(5) {
		c := api.Call{Name: m.name(), Number: m.next(64), Ret: pick(m.numbers, "", "r", "s")}
		for range m.next(5) {
			c.Args, c.Names = append(c.Args, max(m.next(len(t.Types)), m.next(len(t.Types)))), append(c.Names, m.name())
		}
		if m.slip() {
			c.Number = m.extreme()
		}
		if m.slip() {
			c.Args = append(c.Args, m.extreme())
		}
		if m.slip() {
			c.Args, c.Names = make([]int, 7), make([]string, 7)
		}
		t.Calls = append(t.Calls, c)
	}
	return t
}

// arg is an argument of a type, behind a program; lengths are 0.
func (m maker) arg(t api.Table, n int, p api.Program) api.Arg {
	y := t.Types[n]
	var a api.Arg
	switch y.Kind {
	case api.TypeInt:
		a = value(y.Lo + m.next(y.Hi-y.Lo+1))
	case api.TypeConst:
		a = value(y.Lo)
	case api.TypeFlags:
		a = value(pick(m.numbers, sums(y.Values)...))
	case api.TypeLen:
		a = value(0)
	case api.TypeRes:
		a = value(pick(m.numbers, y.Values...))
		var made []int
		for i, s := range p {
			if s.Call >= 0 && s.Call < len(t.Calls) && t.Calls[s.Call].Ret == y.Of {
				made = append(made, i)
			}
		}
		if len(made) > 0 && m.next(4) > 0 {
			a = ref(pick(m.numbers, made...))
		}
		if m.slip() || m.slip() {
			a = ref(m.next(8))
		}
	case api.TypePtr:
		if a = ptr(); m.next(5) > 0 {
			a = ptr(m.arg(t, y.Elems[0], p))
		}
	case api.TypeArray:
		a = group()
		for range y.Lo + m.next(y.Hi-y.Lo+1) {
			a.Kids = append(a.Kids, m.arg(t, y.Elems[0], p))
		}
	case api.TypeStruct:
		a = group()
		for _, k := range y.Elems {
			a.Kids = append(a.Kids, m.arg(t, k, p))
		}
	case api.TypeUnion:
		k := m.next(len(y.Elems))
		a = part(k, m.arg(t, y.Elems[k], p))
	case api.TypeText:
		a = data(pick(m.numbers, y.Texts...))
	case api.TypeData:
		a = data(strings.Repeat("d", y.Lo+m.next(y.Hi-y.Lo+1)))
	}
	m.spoilArg(&a)
	return a
}

func (m maker) spoilArg(a *api.Arg) {
	if m.slip() {
		a.Kind = pick(m.numbers, 0, 1, 2, 3, 4, 5, 6, 7, -1)
	}
	if m.slip() {
		a.Value = m.extreme()
	}
	if m.slip() {
		a.Bytes = append(slices.Clone(a.Bytes), 1)
	}
	if m.slip() {
		a.Kids = pick(m.numbers, nil, append(slices.Clone(a.Kids), value(0), ref(0)), a.Kids[:len(a.Kids)/2])
	}
}

// program is one of a table but for slips; its lengths are mostly right.
func (m maker) program(t api.Table) (p api.Program) {
	for range m.next(7) {
		s := step(m.next(len(t.Calls)))
		for _, n := range t.Calls[s.Call].Args {
			s.Args = append(s.Args, m.arg(t, n, p))
		}
		if _, wrong := modelCheck(t, append(p[:len(p):len(p)], s)); wrong && m.next(20) > 0 {
			c := t.Calls[s.Call]
			(&model{t: t}).mend(c.Args, c.Names, s.Args)
		}
		p = append(p, s)
	}
	for i := range p {
		if m.slip() {
			p[i].Call = pick(m.numbers, m.next(len(t.Calls)+1), m.extreme())
		}
		if m.slip() {
			p[i].Args = pick(m.numbers, nil, append(p[i].Args, value(0)))
		}
	}
	return p
}

// mend gives lengths their values, where arguments are as their types say; it gives up where they are not.
func (m *model) mend(types []int, names []string, args []api.Arg) {
	defer func() { recover() }()
	for k, n := range types {
		y, a := m.t.Types[n], &args[k]
		switch y.Kind {
		case api.TypeLen:
			a.Value = m.length(y.Of, types, names, args)
		case api.TypePtr, api.TypeArray:
			m.mend(slices.Repeat(y.Elems, len(a.Kids)), nil, a.Kids)
		case api.TypeStruct:
			m.mend(y.Elems, y.Names, a.Kids)
		case api.TypeUnion:
			m.mend(y.Elems[a.Value:a.Value+1], nil, a.Kids)
		}
	}
}

// usable is a table that may be.
func (m maker) usable() api.Table {
	for {
		if t := (maker{m.numbers, 0}).table(); modelCan(t) {
			return t
		}
	}
}

// TestCompareCan: tables with few slips and with many.
func TestCompareCan(t *testing.T) {
	n := numbers(1)
	met := map[bool]int{}
	for i := range 40000 {
		x := maker{&n, []int{0, 2, 10, 50}[i%4]}.table()
		want := modelCan(x)
		if prog.Can(x) != want {
			t.Fatalf("%+v: %v", x, !want)
		}
		met[want]++
	}
	if met[true] < 10000 || met[false] < 5000 {
		t.Error(met)
	}
}

// TestCompareCheck: programs with few slips and with many. Each fault that the chapter names is met, and so are programs without any.
func TestCompareCheck(t *testing.T) {
	n := numbers(2)
	met := map[api.Errno]int{}
	for i := range 40000 {
		m := maker{&n, []int{0, 0, 10, 50}[i%4]}
		x := m.usable()
		p := m.program(x)
		e := prog.Check(x, p)
		f, wrong := modelCheck(x, p)
		if wrong && e != error(f) || !wrong && e != nil {
			t.Fatalf("%+v, %+v: %v, want %v, %v", x, p, e, f, wrong)
		}
		met[f.Why]++
	}
	for _, why := range []api.Errno{api.OK, api.ErrCall, api.ErrCount, api.ErrKind, api.ErrValue, api.ErrRef, api.ErrLen} {
		if met[why] < 100 {
			t.Errorf("too few of %v: %v", why, met)
		}
	}
	if len(met) != 7 {
		t.Error(met)
	}
}

// TestCompareSize: arguments of all types, also of others than they were made for.
func TestCompareSize(t *testing.T) {
	n := numbers(3)
	met := map[api.Errno]int{}
	for i := range 15000 {
		m := maker{&n, []int{0, 0, 20, 50}[i%4]}
		x := m.usable()
		for k := range x.Types {
			a := m.arg(x, k, nil)
			if m.next(10) == 0 {
				k = m.next(len(x.Types)+2) - 1
			}
			size, e := prog.Size(x, k, a)
			want, why := modelSize(x, k, a)
			if size != want || e != why {
				t.Fatalf("%d of %+v, %+v: %d, %v, want %d, %v", k, x, a, size, e, want, why)
			}
			met[e]++
		}
	}
	for _, why := range []api.Errno{api.OK, api.ErrArg, api.ErrCount, api.ErrKind, api.ErrValue} {
		if met[why] < 200 {
			t.Errorf("too few of %v: %v", why, met)
		}
	}
}

// TestCompareDefault: the least argument is of its type, but for lengths.
func TestCompareDefault(t *testing.T) {
	n := numbers(4)
	for range 3000 {
		m := maker{&n, 0}
		x := m.usable()
		for k := range x.Types {
			a, e := prog.Default(x, k)
			size, why := modelSize(x, k, a)
			if e != api.OK || why != api.OK {
				t.Fatalf("%d of %+v: %+v, %v, %v", k, x, a, e, why)
			}
			if again, e := prog.Size(x, k, a); e != api.OK || again != size {
				t.Fatalf("%d of %+v: %+v, %v", k, x, a, e)
			}
			s := step(0, trimArgs([]api.Arg{a})...)
			x.Calls[0].Args, x.Calls[0].Names = []int{k}, []string{"a"}
			(&model{t: x}).mend(x.Calls[0].Args, x.Calls[0].Names, s.Args)
			if e := prog.Check(x, api.Program{s}); e != nil {
				t.Fatalf("%d of %+v: %+v, %v", k, x, s, e)
			}
		}
	}
}

// TestCompareEdits: Remove, Insert, Uses, Copy, Same of right programs and wrong ones.
func TestCompareEdits(t *testing.T) {
	n := numbers(5)
	met := map[string]int{}
	for i := range 20000 {
		m := maker{&n, []int{0, 0, 0, 30}[i%4]}
		x := m.usable()
		p := m.program(x)
		before := trim(p)
		at := m.next(len(p)+3) - 1
		q, e := prog.Remove(x, p, at)
		want, why := modelRemove(x, p, at)
		if e != why || !equal(q, want) {
			t.Fatalf("without %d, %+v, %+v: %+v, %v, want %+v, %v", at, x, p, q, e, want, why)
		}
		met[fmt.Sprint("remove ", int(e))]++
		s := step(m.next(len(x.Calls)))
		for _, k := range x.Calls[s.Call].Args {
			s.Args = append(s.Args, m.arg(x, k, p[:max(0, min(at, len(p)))]))
		}
		(&model{t: x}).mend(x.Calls[s.Call].Args, x.Calls[s.Call].Names, s.Args)
		r, e := prog.Insert(x, p, at, s)
		want, why = modelInsert(x, p, at, s)
		if e != why || !equal(r, want) {
			t.Fatalf("%+v at %d, %+v, %+v: %+v, %v, want %+v, %v", s, at, x, p, r, e, want, why)
		}
		met[fmt.Sprint("insert ", int(e))]++
		if e == api.OK {
			if back, e := prog.Remove(x, r, at); e != api.OK || !prog.Same(back, p) {
				t.Fatalf("%+v at %d, and out again, %+v: %+v, %v", s, at, p, back, e)
			}
		}
		if !equal(p, before) || !prog.Same(p, before) || !prog.Same(prog.Copy(p), before) {
			t.Fatalf("%+v was %+v", p, before)
		}
		if prog.Same(p, q) != equal(p, q) || prog.Same(p, r) != equal(p, r) {
			t.Fatalf("%+v, %+v, %+v", p, q, r)
		}
	}
	for _, what := range []string{"remove 0", "remove 1", "remove 152", "insert 0", "insert 1", "insert 152"} {
		if met[what] < 100 {
			t.Errorf("too few of %s: %v", what, met)
		}
	}
}

// TestRemoveAll: steps go one by one, in any order; what is left is a program of the table each time, and names no step that is gone.
func TestRemoveAll(t *testing.T) {
	n := numbers(6)
	for range 3000 {
		m := maker{&n, 0}
		x := m.usable()
		p := m.program(x)
		if prog.Check(x, p) != nil {
			continue
		}
		for len(p) > 0 {
			at := m.next(len(p))
			q, e := prog.Remove(x, p, at)
			if e != api.OK || len(q) != len(p)-1 || prog.Check(x, q) != nil {
				t.Fatalf("without %d, %+v, %+v: %+v, %v", at, x, p, q, e)
			}
			for i := range q {
				from := i
				if i >= at {
					from++
				}
				var want []int
				for _, k := range prog.Uses(p, from) {
					if k > at {
						k--
					} else if k == at {
						continue
					}
					want = append(want, k)
				}
				if !slices.Equal(prog.Uses(q, i), want) {
					t.Fatalf("step %d without %d, %+v: %v, want %v", i, at, p, prog.Uses(q, i), want)
				}
			}
			p = q
		}
	}
}
