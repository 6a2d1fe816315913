package gen_test

import (
	"math/big"
	"slices"

	"dredger/api"
)

// The model writes what is drawn as a list of numbers of any size that it takes from the front, and makes lengths by going over a step again, name by name.

type model struct {
	t     api.Table
	rest  []int
	taken int
}

// next is Next, as chapter 19 says it.
func (m *model) next(n *big.Int) int {
	if n.Sign() < 1 || len(m.rest) == 0 {
		return 0
	}
	v := big.NewInt(int64(m.rest[0]))
	if v.Sign() < 0 {
		v.Add(v, new(big.Int).Lsh(big.NewInt(1), 64))
	}
	m.rest = m.rest[1:]
	m.taken++
	return int(v.Mod(v, n).Int64())
}

func (m *model) below(n int) int { return m.next(big.NewInt(int64(n))) }

// between is how many values there are from lo to hi, at most that many.
func between(lo, hi int, most int64) *big.Int {
	n := new(big.Int).Sub(big.NewInt(int64(hi)), big.NewInt(int64(lo)))
	n.Add(n, big.NewInt(1))
	if most > 0 && n.Cmp(big.NewInt(most)) > 0 {
		return big.NewInt(most)
	}
	return n
}

// arg is a drawn argument.
func (m *model) arg(n int, p api.Program) api.Arg {
	y := m.t.Types[n]
	a := api.Arg{Kind: api.ArgValue}
	var kids []int
	switch y.Kind {
	case api.TypeInt:
		a.Value = []int{y.Lo, y.Hi, y.Lo, y.Lo}[m.peek(4)]
		if m.below(4) > 1 {
			a.Value += m.next(between(y.Lo, y.Hi, 1<<31))
		}
	case api.TypeConst:
		a.Value = y.Lo
	case api.TypeFlags:
		for k := 0; k < len(y.Values); k++ {
			a.Value |= m.below(2) * y.Values[k]
		}
	case api.TypeRes:
		var makers []int
		for i := range p {
			if m.t.Calls[p[i].Call].Ret == y.Of {
				makers = append(makers, i)
			}
		}
		if k := m.below(len(makers) + 1); k == len(makers) {
			a.Value = y.Values[m.below(len(y.Values))]
		} else {
			a = api.Arg{Kind: api.ArgRef, Value: makers[k]}
		}
	case api.TypePtr:
		a.Kind = api.ArgPtr
		if m.below(8) > 0 {
			kids = y.Elems
		}
	case api.TypeArray:
		a.Kind = api.ArgGroup
		for range y.Lo + m.next(between(y.Lo, y.Hi, 0)) {
			kids = append(kids, y.Elems[0])
		}
	case api.TypeStruct:
		a.Kind, kids = api.ArgGroup, y.Elems
	case api.TypeUnion:
		a.Kind, a.Value = api.ArgUnion, m.below(len(y.Elems))
		kids = []int{y.Elems[a.Value]}
	case api.TypeText:
		a.Kind = api.ArgData
		a.Bytes = append(a.Bytes, y.Texts[m.below(len(y.Texts))]...)
	case api.TypeData:
		a.Kind = api.ArgData
		for range y.Lo + m.next(between(y.Lo, y.Hi, 0)) {
			a.Bytes = append(a.Bytes, byte(m.below(256)))
		}
	}
	for _, k := range kids {
		a.Kids = append(a.Kids, m.arg(k, p))
	}
	return a
}

// peek is what the next draw will be, without taking it.
func (m *model) peek(n int) int {
	again := *m
	return again.below(n)
}

// step is a drawn step, whose lengths are right.
func (m *model) step(call int, p api.Program) api.Step {
	s := api.Step{Call: call}
	c := m.t.Calls[call]
	for _, n := range c.Args {
		s.Args = append(s.Args, m.arg(n, p))
	}
	m.mend(c.Args, c.Names, s.Args)
	return s
}

// program is a drawn program; the weights are asked for.
func (m *model) program(n int, weight func(a, b int) int) (p api.Program) {
	n = min(max(n, 0), 64)
	if n == 0 || len(m.t.Calls) == 0 {
		return nil
	}
	count, last := 1+m.below(n), -1
	for len(p) < count {
		var units []int
		for b := range m.t.Calls {
			units = append(units, slices.Repeat([]int{b}, weight(last, b))...)
		}
		last = units[m.below(len(units))]
		p = append(p, m.step(last, p))
	}
	return p
}

// mend gives the lengths among arguments that stand beside one another, and among their kids, their values.
func (m *model) mend(places []int, names []string, args []api.Arg) {
	for k, n := range places {
		y := m.t.Types[n]
		if j := slices.Index(names, y.Of); y.Kind == api.TypeLen && j >= 0 {
			args[k].Value = m.size(places[j], args[j], true)
		}
		var inner []string
		if y.Kind == api.TypeStruct {
			inner = y.Names
		}
		m.mend(m.elems(n, args[k]), inner, args[k].Kids)
	}
}

// elems is the types of an argument's kids.
func (m *model) elems(n int, a api.Arg) []int {
	y := m.t.Types[n]
	switch y.Kind {
	case api.TypeStruct:
		return y.Elems
	case api.TypeUnion:
		return y.Elems[a.Value:][:1]
	}
	return slices.Repeat(y.Elems, len(a.Kids))
}

// size is the size of an argument; through: of what a pointer leads to, instead.
func (m *model) size(n int, a api.Arg, through bool) int {
	y := m.t.Types[n]
	sum := 0
	for k, e := range m.elems(n, a) {
		sum += m.size(e, a.Kids[k], false)
	}
	switch {
	case y.Kind == api.TypePtr && through, y.Kind >= api.TypeArray && y.Kind <= api.TypeUnion:
		return sum
	case y.Kind == api.TypeText:
		return len(a.Bytes) + 1
	case y.Kind == api.TypeData:
		return len(a.Bytes)
	}
	return y.Size
}
