package prog_test

import (
	"slices"
	"strings"

	"dredger/api"
)

// The model asks of a table for each rule by itself, and tells all faults of a program, each with a key that says how early it comes, of which it takes the least one.

// modelCan is Can, as the chapter says it.
func modelCan(t api.Table) bool {
	if len(t.Types) > 400 || len(t.Calls) > 64 {
		return false
	}
	inside := func(l []int, below int) bool {
		return !slices.ContainsFunc(l, func(k int) bool { return k < 0 || k >= below })
	}
	for i, y := range t.Types {
		if !inside(y.Elems, i) {
			return false
		}
		if y.Kind < 1 || y.Kind > 11 {
			return false
		}
		least, most := 0, 0
		switch y.Kind {
		case 6, 7:
			least, most = 1, 1
		case 8, 9:
			least, most = 1, len(y.Names)
		}
		sizes := map[int]string{1: "1248", 2: "1248", 3: "1248", 4: "1248", 5: "1248", 6: "8"}[y.Kind]
		switch {
		case len(y.Elems) < least, len(y.Elems) > most:
			return false
		case (y.Kind == 8 || y.Kind == 9) && len(y.Elems) != len(y.Names):
			return false
		case sizes != "" && (y.Size < 0 || y.Size > 9 || !strings.ContainsRune(sizes, rune('0'+y.Size))):
			return false
		case y.Kind == 1 && y.Lo > y.Hi:
			return false
		case y.Kind == 7 && !slices.IsSorted([]int{0, y.Lo, y.Hi, 8}):
			return false
		case y.Kind == 11 && !slices.IsSorted([]int{0, y.Lo, y.Hi, 64}):
			return false
		case y.Kind == 5 && len(y.Values) == 0, y.Kind == 10 && len(y.Texts) == 0:
			return false
		case y.Kind == 10 && slices.ContainsFunc(y.Texts, func(s string) bool { return len(s) > 24 }):
			return false
		case y.Kind == 6 && (y.Dir < 1 || y.Dir > 3):
			return false
		}
	}
	for i := range t.Types {
		if modelGreat(t, i, map[int]int{}) > 300 {
			return false
		}
	}
	for _, c := range t.Calls {
		if !inside(c.Args, len(t.Types)) || len(c.Args) > 6 || len(c.Args) != len(c.Names) || c.Number < 0 || c.Number > 63 {
			return false
		}
	}
	return true
}

// modelGreat is how great a type is, or some number that is too great.
func modelGreat(t api.Table, n int, known map[int]int) int {
	if g, ok := known[n]; ok {
		return g
	}
	g := 1
	for _, k := range t.Types[n].Elems {
		e := modelGreat(t, k, known)
		switch t.Types[n].Kind {
		case api.TypeArray:
			g += t.Types[n].Hi * e
		case api.TypeUnion:
			g = max(g, 1+e)
		default:
			g += e
		}
	}
	known[n] = min(g, 1000)
	return known[n]
}

type mistake struct {
	key []int
	why api.Errno
}

type model struct {
	t        api.Table
	p        api.Program
	mistakes []mistake
}

func (m *model) wrong(is bool, why api.Errno, key ...int) {
	if is {
		m.mistakes = append(m.mistakes, mistake{slices.Clone(key), why})
	}
}

// first is the earliest fault.
func (m *model) first() (api.Fault, bool) {
	if len(m.mistakes) == 0 {
		return api.Fault{}, false
	}
	x := slices.MinFunc(m.mistakes, func(a, b mistake) int { return slices.Compare(a.key, b.key) })
	return api.Fault{At: x.key[0], Why: x.why}, true
}

// modelCheck is Check, as the chapter says it.
func modelCheck(t api.Table, p api.Program) (api.Fault, bool) {
	if !modelCan(t) {
		return api.Fault{Why: api.ErrArg}, true
	}
	if len(p) > 64 {
		return api.Fault{Why: api.ErrFull}, true
	}
	m := &model{t: t, p: p}
	for i, s := range p {
		if s.Call < 0 || s.Call >= len(t.Calls) {
			m.wrong(true, api.ErrCall, i, 0)
			continue
		}
		c := t.Calls[s.Call]
		m.wrong(len(s.Args) != len(c.Args), api.ErrCount, i, 1)
		for k := range min(len(s.Args), len(c.Args)) {
			m.typed(c.Args[k], s.Args[k], i, 2, k)
		}
		if _, any := m.first(); !any {
			m.lengths(c.Args, c.Names, s.Args, i, 3)
		}
	}
	return m.first()
}

// typed tells what is wrong with an argument, and with all in it; what is wrong with it itself has keys below those of its kids.
func (m *model) typed(n int, a api.Arg, key ...int) {
	y := m.t.Types[n]
	at := func(rank int) []int { return append(slices.Clone(key), rank) }
	kinds := map[int]string{1: "1", 2: "1", 3: "1", 4: "1", 5: "12", 6: "3", 7: "4", 8: "4", 9: "5", 10: "6", 11: "6"}[y.Kind]
	fields := map[int]string{1: "v", 2: "v", 3: "k", 4: "k", 5: "vk", 6: "b"}[a.Kind]
	m.wrong(a.Kind < 1 || a.Kind > 6 || !strings.ContainsRune(kinds, rune('0'+a.Kind)), api.ErrKind, at(-3)...)
	m.wrong(a.Value != 0 && !strings.Contains(fields, "v"), api.ErrKind, at(-3)...)
	m.wrong(len(a.Kids) > 0 && !strings.Contains(fields, "k"), api.ErrKind, at(-3)...)
	m.wrong(len(a.Bytes) > 0 && !strings.Contains(fields, "b"), api.ErrKind, at(-3)...)
	var elems []int
	switch y.Kind {
	case api.TypePtr:
		m.wrong(len(a.Kids) > 1, api.ErrCount, at(-2)...)
		elems = slices.Repeat(y.Elems, len(a.Kids))
	case api.TypeArray:
		m.wrong(len(a.Kids) < y.Lo || len(a.Kids) > y.Hi, api.ErrCount, at(-2)...)
		elems = slices.Repeat(y.Elems, len(a.Kids))
	case api.TypeStruct:
		m.wrong(len(a.Kids) != len(y.Elems), api.ErrCount, at(-2)...)
		elems = y.Elems
	case api.TypeUnion:
		m.wrong(len(a.Kids) != 1, api.ErrCount, at(-2)...)
		if a.Value >= 0 && a.Value < len(y.Elems) {
			elems = []int{y.Elems[a.Value]}
		} else {
			m.wrong(true, api.ErrValue, at(-1)...)
		}
	default:
		m.leaf(y, a, at(-1))
	}
	for k := range min(len(elems), len(a.Kids)) {
		m.typed(elems[k], a.Kids[k], at(k)...)
	}
}

// leaf tells whether the value, or bytes, of an argument without kids are wrong.
func (m *model) leaf(y api.Type, a api.Arg, key []int) {
	switch y.Kind {
	case api.TypeInt:
		m.wrong(a.Value < y.Lo || a.Value > y.Hi, api.ErrValue, key...)
	case api.TypeConst:
		m.wrong(a.Value != y.Lo, api.ErrValue, key...)
	case api.TypeFlags:
		m.wrong(!slices.Contains(sums(y.Values), a.Value), api.ErrValue, key...)
	case api.TypeRes:
		if a.Kind == api.ArgRef {
			there := false
			for i, s := range m.p[:key[0]] {
				there = there || i == a.Value && s.Call >= 0 && s.Call < len(m.t.Calls) && m.t.Calls[s.Call].Ret == y.Of
			}
			m.wrong(!there, api.ErrRef, key...)
		} else {
			m.wrong(!slices.Contains(y.Values, a.Value), api.ErrValue, key...)
		}
	case api.TypeText:
		m.wrong(!slices.Contains(y.Texts, string(a.Bytes)), api.ErrValue, key...)
	case api.TypeData:
		m.wrong(len(a.Bytes) < y.Lo || len(a.Bytes) > y.Hi, api.ErrValue, key...)
	}
}

// sums is all that values can be or-ed to.
func sums(values []int) []int {
	l := []int{0}
	for _, v := range values {
		for _, s := range slices.Clone(l) {
			l = append(l, s|v)
		}
	}
	return l
}

// lengths tells whether lengths among arguments, or deeper, are wrong.
func (m *model) lengths(types []int, names []string, args []api.Arg, key ...int) {
	for k, n := range types {
		y, a := m.t.Types[n], args[k]
		if y.Kind == api.TypeLen {
			m.wrong(a.Value != m.length(y.Of, types, names, args), api.ErrLen, key...)
		}
		switch y.Kind {
		case api.TypePtr, api.TypeArray:
			m.lengths(slices.Repeat(y.Elems, len(a.Kids)), nil, a.Kids, key...)
		case api.TypeStruct:
			m.lengths(y.Elems, y.Names, a.Kids, key...)
		case api.TypeUnion:
			m.lengths(y.Elems[a.Value:a.Value+1], nil, a.Kids, key...)
		}
	}
}

func (m *model) length(of string, types []int, names []string, args []api.Arg) int {
	for k, name := range names {
		if name != of {
			continue
		}
		if y := m.t.Types[types[k]]; y.Kind != api.TypePtr {
			return m.size(types[k], args[k])
		} else if len(args[k].Kids) == 1 {
			return m.size(y.Elems[0], args[k].Kids[0])
		}
		return 0
	}
	return 0
}

func (m *model) size(n int, a api.Arg) int {
	y := m.t.Types[n]
	switch {
	case y.Kind <= api.TypePtr:
		return y.Size
	case y.Kind == api.TypeText:
		return len(a.Bytes) + 1
	}
	sum := len(a.Bytes)
	for k, kid := range a.Kids {
		switch y.Kind {
		case api.TypeArray:
			sum += m.size(y.Elems[0], kid)
		case api.TypeStruct:
			sum += m.size(y.Elems[k], kid)
		case api.TypeUnion:
			sum += m.size(y.Elems[a.Value], kid)
		}
	}
	return sum
}

// modelSize is Size: all that is wrong but for references; lengths are not asked.
func modelSize(t api.Table, n int, a api.Arg) (int, api.Errno) {
	if !modelCan(t) || n < 0 || n >= len(t.Types) {
		return 0, api.ErrArg
	}
	m := &model{t: t, p: make(api.Program, 1)}
	m.typed(n, a, 0)
	m.mistakes = slices.DeleteFunc(m.mistakes, func(x mistake) bool { return x.why == api.ErrRef })
	if f, ok := m.first(); ok {
		return 0, f.Why
	}
	return m.size(n, a), api.OK
}

// modelMoved is a right program all of whose references are changed: to another place, or (-1) to their types' first value.
func modelMoved(t api.Table, p api.Program, to func(place int) int) (out api.Program) {
	var moved func(n int, a api.Arg) api.Arg
	moved = func(n int, a api.Arg) api.Arg {
		y := t.Types[n]
		if a.Kind == api.ArgRef {
			if a.Value = to(a.Value); a.Value < 0 {
				return value(y.Values[0])
			}
		}
		kids := a.Kids
		a.Kids = nil
		for k, kid := range kids {
			place := k
			if y.Kind == api.TypeUnion {
				place = a.Value
			}
			a.Kids = append(a.Kids, moved(y.Elems[min(place, len(y.Elems)-1)], kid))
		}
		return a
	}
	for _, s := range p {
		var args []api.Arg
		for k, a := range s.Args {
			args = append(args, moved(t.Calls[s.Call].Args[k], a))
		}
		out = append(out, api.Step{Call: s.Call, Args: args})
	}
	return out
}

func modelRemove(t api.Table, p api.Program, i int) (api.Program, api.Errno) {
	if !modelCan(t) || i < 0 || i >= len(p) {
		return nil, api.ErrArg
	}
	if f, ok := modelCheck(t, p); ok {
		return nil, f.Why
	}
	q := modelMoved(t, p, func(place int) int {
		switch {
		case place < i:
			return place
		case place == i:
			return -1
		}
		return place - 1
	})
	return append(q[:i:i], q[i+1:]...), api.OK
}

func modelInsert(t api.Table, p api.Program, i int, s api.Step) (api.Program, api.Errno) {
	if !modelCan(t) || i < 0 || i > len(p) {
		return nil, api.ErrArg
	}
	if f, ok := modelCheck(t, p); ok {
		return nil, f.Why
	}
	if len(p) == 64 {
		return nil, api.ErrFull
	}
	q := modelMoved(t, p, func(place int) int {
		if place < i {
			return place
		}
		return place + 1
	})
	q = append(append(q[:i:i], s), q[i:]...)
	if f, ok := modelCheck(t, q); ok {
		return nil, f.Why
	}
	return q, api.OK
}
