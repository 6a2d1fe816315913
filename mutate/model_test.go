package mutate_test

import (
	"math/big"
	"slices"

	"dredger/api"
	"dredger/draw"
	"dredger/gen"
)

// The model keeps a program as steps that name one another by address, so that no place need be moved: a mutation is one of lists, and places are counted at the end.

type node struct {
	call int
	args []tree
}

type tree struct {
	api.Arg
	place int   // its type's
	to    *node // of a reference
	kids  []tree
}

type model struct {
	t     api.Table
	c     *draw.Choice
	rest  []int
	taken int
}

// next is Next, as chapter 19 says it.
func (m *model) next(n int) int {
	if len(m.rest) == 0 {
		return 0
	}
	v := big.NewInt(int64(m.rest[0]))
	if v.Sign() < 0 {
		v.Add(v, new(big.Int).Lsh(big.NewInt(1), 64))
	}
	m.rest = m.rest[1:]
	m.taken++
	return int(v.Mod(v, big.NewInt(int64(n))).Int64())
}

// lend has another one draw.
func (m *model) lend(f func(d *draw.Draws)) {
	d := draw.New(m.rest)
	f(d)
	m.rest = m.rest[d.Used():]
	m.taken += d.Used()
}

// elems is the types of an argument's kids.
func (m *model) elems(place int, a api.Arg) []int {
	y := m.t.Types[place]
	switch y.Kind {
	case api.TypeStruct:
		return y.Elems
	case api.TypeUnion:
		return y.Elems[a.Value:][:1]
	}
	return slices.Repeat(y.Elems, len(a.Kids))
}

func (m *model) trees(places []int, l []api.Arg, ahead []*node) (out []tree) {
	for k, a := range l {
		x := tree{Arg: a, place: places[k], kids: m.trees(m.elems(places[k], a), a.Kids, ahead)}
		if a.Kind == api.ArgRef {
			x.to = ahead[a.Value]
		}
		out = append(out, x)
	}
	return out
}

// node is a step behind others.
func (m *model) node(s api.Step, ahead []*node) *node {
	return &node{s.Call, m.trees(m.t.Calls[s.Call].Args, s.Args, ahead)}
}

func (m *model) nodes(p api.Program) (l []*node) {
	for _, s := range p {
		l = append(l, m.node(s, l))
	}
	return l
}

func (m *model) args(l []tree, all []*node) (out []api.Arg) {
	for _, x := range l {
		a := api.Arg{Kind: x.Kind, Value: x.Value, Bytes: x.Bytes, Kids: m.args(x.kids, all)}
		if a.Kind == api.ArgRef {
			a.Value = slices.Index(all, x.to)
		}
		if a.Kind == api.ArgRef && a.Value < 0 {
			a = api.Arg{Kind: api.ArgValue, Value: m.t.Types[x.place].Values[0]}
		}
		out = append(out, a)
	}
	return out
}

// program is the steps, with their places counted anew.
func (m *model) program(l []*node) (p api.Program) {
	for _, n := range l {
		p = append(p, api.Step{Call: n.call, Args: m.args(n.args, l)})
	}
	return p
}

func (m *model) insert(p api.Program, most int) api.Program {
	if len(p) >= min(max(most, 0), 64) || len(m.t.Calls) == 0 {
		return p
	}
	l := m.nodes(p)
	i := m.next(len(p) + 1)
	last := -1
	if i > 0 {
		last = p[i-1].Call
	}
	var units []int
	for b := range m.t.Calls {
		units = append(units, slices.Repeat([]int{b}, m.c.Weight(last, b))...)
	}
	call := units[m.next(len(units))]
	m.lend(func(d *draw.Draws) {
		s, _ := gen.Step(m.t, call, p[:i], d)
		l = slices.Insert(l, i, m.node(s, l[:i]))
	})
	return m.program(l)
}

func (m *model) remove(p api.Program) api.Program {
	if len(p) == 0 {
		return p
	}
	i := m.next(len(p))
	return m.program(slices.Delete(m.nodes(p), i, i+1))
}

func (m *model) change(p api.Program) api.Program {
	if len(p) == 0 {
		return p
	}
	i := m.next(len(p))
	c := m.t.Calls[p[i].Call]
	if len(c.Args) == 0 {
		return p
	}
	q := trim(p)
	k := m.next(len(c.Args))
	m.lend(func(d *draw.Draws) { q[i].Args[k], _ = gen.Arg(m.t, c.Args[k], p[:i], d) })
	m.mend(c.Args, c.Names, q[i].Args)
	return q
}

func (m *model) splice(p, q api.Program, most int) api.Program {
	i := m.next(len(p) + 1)
	l, other := m.nodes(p), m.nodes(q)
	for len(other) > 0 && len(l)+len(other) > min(max(most, 0), 64) {
		other = other[:len(other)-1]
	}
	return m.program(slices.Concat(l[:i], other, l[i:]))
}

func (m *model) mutate(p, q api.Program, most int) api.Program {
	switch m.next(4) {
	case 0:
		return m.insert(p, most)
	case 1:
		return m.remove(p)
	case 2:
		return m.change(p)
	}
	return m.splice(p, q, most)
}

// mend gives the lengths among arguments that stand beside one another, and among their kids, their values.
func (m *model) mend(places []int, names []string, args []api.Arg) {
	for k, n := range places {
		y := m.t.Types[n]
		if j := slices.Index(names, y.Of); y.Kind == api.TypeLen && j >= 0 {
			args[k].Value = m.size(places[j], args[j], true)
		}
		var inner []string
		if y.Kind == api.TypeStruct {
			inner = y.Names
		}
		m.mend(m.elems(n, args[k]), inner, args[k].Kids)
	}
}

// size is the size of an argument; through: of what a pointer leads to, instead.
func (m *model) size(n int, a api.Arg, through bool) int {
	y := m.t.Types[n]
	sum := 0
	for k, e := range m.elems(n, a) {
		sum += m.size(e, a.Kids[k], false)
	}
	switch {
	case y.Kind == api.TypePtr && through, y.Kind >= api.TypeArray && y.Kind <= api.TypeUnion:
		return sum
	case y.Kind == api.TypeText:
		return len(a.Bytes) + 1
	case y.Kind == api.TypeData:
		return len(a.Bytes)
	}
	return y.Size
}
