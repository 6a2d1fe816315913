package layout_test

import (
	"fmt"
	"slices"

	"dredger/api"
)

// The model names each pointer by the way to it (the step's place, the argument's, the kids'), gives all of them addresses, and only then looks what lies there.

type model struct {
	t     api.Table
	paths []string // of pointers to something, in order
	sizes map[string]int
	addrs map[string]int
}

// elems is the types of an argument's kids.
func (m *model) elems(n int, a api.Arg) []int {
	y := m.t.Types[n]
	switch y.Kind {
	case api.TypeStruct:
		return y.Elems
	case api.TypeUnion:
		return []int{y.Elems[a.Value]}
	}
	return slices.Repeat(y.Elems, len(a.Kids))
}

// eachKid goes over an argument's kids, with the ways to them.
func (m *model) eachKid(n int, a api.Arg, path string, do func(n int, a api.Arg, path string)) {
	for k, e := range m.elems(n, a) {
		if k < len(a.Kids) {
			do(e, a.Kids[k], fmt.Sprint(path, ".", k))
		}
	}
}

// note keeps the pointers in an argument, an outer one first, and how much each leads to.
func (m *model) note(n int, a api.Arg, path string) {
	if a.Kind == api.ArgPtr && len(a.Kids) == 1 {
		m.paths = append(m.paths, path)
		b, _ := m.render(m.t.Types[n].Elems[0], a.Kids[0], path+".0")
		m.sizes[path] = len(b)
	}
	m.eachKid(n, a, path, m.note)
}

// render is the bytes of an argument, and the references in it.
func (m *model) render(n int, a api.Arg, path string) (b []byte, refs []api.Copy) {
	y := m.t.Types[n]
	v := a.Value
	switch y.Kind {
	case api.TypeText:
		return append(slices.Clone(a.Bytes), 0), nil
	case api.TypeData:
		return a.Bytes, nil
	case api.TypeArray, api.TypeStruct, api.TypeUnion:
		m.eachKid(n, a, path, func(n int, a api.Arg, path string) {
			c, more := m.render(n, a, path)
			for _, r := range more {
				r.Addr += len(b)
				refs = append(refs, r)
			}
			b = append(b, c...)
		})
		return b, refs
	case api.TypePtr:
		v = m.addrs[path] // 0 of one that leads to nothing
	}
	if a.Kind == api.ArgRef {
		refs, v = []api.Copy{{Ref: v, Size: y.Size, Value: y.Values[0]}}, 0
	}
	for range y.Size {
		b = append(b, byte(v))
		v >>= 8
	}
	return b, refs
}

// modelLay is Lay of a right program.
func modelLay(t api.Table, p api.Program) (l []api.Exec, ok bool) {
	m := &model{t: t, sizes: map[string]int{}, addrs: map[string]int{}}
	for i, s := range p {
		for k, a := range s.Args {
			m.note(t.Calls[s.Call].Args[k], a, fmt.Sprint(i, ".", k))
		}
	}
	end := 4096
	for _, path := range m.paths {
		for end%8 != 0 {
			end++
		}
		m.addrs[path] = end
		end += m.sizes[path]
	}
	if end > 4096+2048 {
		return nil, false
	}
	for i, s := range p {
		x := api.Exec{Number: t.Calls[s.Call].Number}
		for k, a := range s.Args {
			n, path := t.Calls[s.Call].Args[k], fmt.Sprint(i, ".", k)
			m.copies(&x, n, a, path)
			w := api.Word{Ref: -1, Value: a.Value + m.addrs[path]}
			if a.Kind == api.ArgRef {
				w = api.Word{Ref: a.Value, Value: t.Types[n].Values[0]}
			}
			x.Words = append(x.Words, w)
		}
		l = append(l, x)
	}
	return l, true
}

// copies adds what the pointers in an argument lead to.
func (m *model) copies(x *api.Exec, n int, a api.Arg, path string) {
	if addr := m.addrs[path]; addr != 0 && m.t.Types[n].Dir != api.DirOut {
		b, refs := m.render(m.t.Types[n].Elems[0], a.Kids[0], path+".0")
		if len(b) > 0 {
			x.Copies = append(x.Copies, api.Copy{Addr: addr, Ref: -1, Bytes: b})
		}
		for _, r := range refs {
			r.Addr += addr
			x.Copies = append(x.Copies, r)
		}
	}
	m.eachKid(n, a, path, func(n int, a api.Arg, path string) { m.copies(x, n, a, path) })
}

// mend gives the lengths of arguments that are right otherwise their values.
func (m *model) mend(types []int, names []string, args []api.Arg) {
	for k, n := range types {
		y, a := m.t.Types[n], &args[k]
		if y.Kind == api.TypeLen {
			a.Value = 0
			for j, name := range slices.Backward(names) {
				if name == y.Of {
					a.Value = m.size(types[j], args[j])
				}
			}
		}
		var inner []string
		if y.Kind == api.TypeStruct {
			inner = y.Names
		}
		m.mend(m.elems(n, *a), inner, a.Kids)
	}
}

// size is how much an argument, or what a pointer leads to, has in memory.
func (m *model) size(n int, a api.Arg) int {
	if a.Kind == api.ArgPtr && len(a.Kids) == 0 {
		return 0
	}
	if a.Kind == api.ArgPtr {
		n, a = m.t.Types[n].Elems[0], a.Kids[0]
	}
	b, _ := m.render(n, a, "")
	return len(b)
}
