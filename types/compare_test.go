package types_test

import (
	"fmt"
	"math"
	"reflect"
	"slices"
	"testing"

	"dredger/api"
	"dredger/parse"
	"dredger/types"
)

// same asks whether Check tells of declarations what the model does.
func same(t *testing.T, l []api.Decl) (api.Table, error) {
	t.Helper()
	x, e := types.Check(l)
	want, why := modelCheck(l)
	if e != why || !sameTable(x, want) {
		t.Fatalf("%s%+v: %+v, %v, want %+v, %v", parse.Print(l), l, x, e, want, why)
	}
	return x, e
}

// maker makes declarations, with a slip now and then.
type maker struct {
	*numbers
	slips int // in how many of a thousand choices it slips
}

func (m maker) slip() bool { return m.next(1000) < m.slips }

func (m maker) word() string {
	return pick(m.numbers, "r0", "r1", "g0", "c0", "s0", "s1", "s2", "u0", "u1", "int8", "int64", "in", "const", "flags", "len", "ptr", "array", "text", "data", "zz", "a", "b", "")
}

func (m maker) integer() string {
	if m.slip() {
		return m.word()
	}
	return pick(m.numbers, "int8", "int16", "int32", "int64")
}

// value is a number, mostly from 0 to a top.
func (m maker) value(top int) int {
	if m.slip() {
		return pick(m.numbers, -1, top+1, 1<<31, 1<<31+1, -1<<31, -1<<31-1, math.MaxInt, math.MinInt)
	}
	return pick(m.numbers, 0, top, m.next(top+1))
}

// ends is a range from 0 to a top.
func (m maker) ends(top int) []int {
	l := []int{m.value(top), m.value(top)}
	if !m.slip() {
		slices.Sort(l)
	}
	return l
}

// expr is a type that mostly may stand somewhere, of structs and unions those with higher numbers than some.
func (m maker) expr(where string, from, deep int) api.Expr {
	n := m.numbers
	if m.slip() {
		where = pick(n, "call", "struct", "inner")
	}
	rows := []string{"int", "int", "const", "named", "flags", "res"}
	switch where {
	case "call":
		rows = append(rows, "ptr", "ptr", "ptr", "len")
	case "struct":
		rows = append(rows, "len", "array", "group", "text", "data")
	default:
		rows = append(rows, "array", "array", "group", "group", "text", "data")
	}
	e := api.Expr{At: m.next(9)}
	switch row := pick(n, rows...); row {
	case "int":
		e.Name = pick(n, "int8", "int16", "int32", "int64")
		if m.next(2) == 0 {
			e.Values = m.ends(tops[e.Name])
		}
	case "const":
		e.Name, e.Names, e.Values = "const", []string{m.integer()}, []int{m.value(1<<31) * pick(n, 1, -1)}
	case "named":
		e.Name, e.Names = "const", []string{pick(n, "c0", "c1"), m.integer()}
	case "flags":
		e.Name, e.Names = "flags", []string{pick(n, "g0", "g1"), m.integer()}
	case "len":
		e.Name, e.Names = "len", []string{pick(n, "a", "a", "a", "a", "a", "b", "int8"), m.integer()}
	case "res":
		e.Name = pick(n, "r0", "r1")
	case "text":
		e.Name, e.Texts = "text", []string{pick(n, "", "/a"), "b"}
	case "data":
		e.Name, e.Values = "data", m.ends(64)
	case "group":
		e.Name = m.group(from)
	case "array":
		e.Name, e.Values, e.Types = "array", m.ends(8), []api.Expr{m.inner(from, deep)}
	case "ptr":
		e.Name, e.Names, e.Types = "ptr", []string{pick(n, "in", "out", "inout")}, []api.Expr{m.inner(from, deep)}
	}
	m.spoil(&e)
	return e
}

func (m maker) inner(from, deep int) api.Expr {
	if deep > 3 {
		return api.Expr{Name: "int8"}
	}
	return m.expr("inner", from, deep+1)
}

// group is the name of a struct or union behind a place, mostly.
func (m maker) group(from int) string {
	all := []string{"s0", "u0", "s1", "u1", "s2", "s3"}
	if m.slips > 0 && m.next(20) == 0 {
		from = 0
	}
	if from >= len(all) {
		return "int8"
	}
	return pick(m.numbers, all[from:]...)
}

// spoil changes a type's parts now and then.
func (m maker) spoil(e *api.Expr) {
	if m.slip() {
		e.Name = m.word()
	}
	if m.slip() {
		e.Names = pick(m.numbers, nil, append(slices.Clone(e.Names), m.word()))
	}
	if m.slip() && len(e.Names) > 0 {
		e.Names[m.next(len(e.Names))] = m.word()
	}
	if m.slip() {
		e.Values = pick(m.numbers, nil, e.Values[:min(1, len(e.Values))], append(slices.Clone(e.Values), m.next(9)))
	}
	if m.slip() {
		e.Texts = pick(m.numbers, nil, append(slices.Clone(e.Texts), pick(m.numbers, "a", "123456789012345678901234", "1234567890123456789012345")))
	}
	if m.slip() {
		e.Types = pick(m.numbers, nil, append(slices.Clone(e.Types), api.Expr{Name: m.word()}))
	}
}

func (m maker) fields(where string, least, most, from int) (l []api.Field) {
	names := []string{"a", "b", "int8", "d", "e", "f", "g", "h"}
	for i := range least + m.next(most-least+1) {
		name := names[i]
		if m.slip() {
			name = pick(m.numbers, names...)
		}
		e := m.expr(where, from, 0)
		for i == 0 && e.Name == "len" && !m.slip() {
			e = m.expr(where, from, 0) // as lengths mostly are of the first field
		}
		l = append(l, api.Field{Name: name, At: m.next(9), Type: e})
	}
	if m.slip() {
		return nil
	}
	return l
}

func (m maker) values() []int {
	if m.slip() {
		return nil
	}
	return []int{m.value(9), m.value(1 << 31)}
}

// decls is declarations of all that types name, and some calls, in any order.
func (m maker) decls() []api.Decl {
	n := m.numbers
	l := []api.Decl{
		{Kind: api.DeclResource, Name: "r0", Base: m.integer(), Values: m.values()},
		{Kind: api.DeclResource, Name: "r1", Base: "int64", Values: []int{-1}},
		{Kind: api.DeclFlags, Name: "g0", Values: m.values()},
		{Kind: api.DeclFlags, Name: "g1", Values: []int{4}},
		{Kind: api.DeclConst, Name: "c0", Number: m.value(1<<31) * pick(n, 1, -1)},
		{Kind: api.DeclConst, Name: "c1", Number: 7},
		{Kind: api.DeclStruct, Name: "s0", Fields: m.fields("struct", 1, 4, 1)},
		{Kind: api.DeclUnion, Name: "u0", Fields: m.fields("inner", 1, 4, 2)},
		{Kind: api.DeclStruct, Name: "s1", Fields: m.fields("struct", 1, 4, 3)},
		{Kind: api.DeclUnion, Name: "u1", Fields: m.fields("inner", 1, 4, 4)},
		{Kind: api.DeclStruct, Name: "s2", Fields: m.fields("struct", 1, 4, 5)},
		{Kind: api.DeclStruct, Name: "s3", Fields: m.fields("struct", 1, 4, 6)},
	}
	for i := range m.next(5) {
		top := 4
		if m.slip() {
			top = 8
		}
		l = append(l, api.Decl{Kind: api.DeclCall, Name: fmt.Sprint("f", i), Number: i * 21, Fields: m.fields("call", 0, top, 0), Ret: pick(n, "", "r0", "r1")})
	}
	for i := range l {
		m.spoilDecl(&l[i])
		k := m.next(i + 1)
		l[i], l[k] = l[k], l[i]
	}
	return l
}

// spoilDecl changes a declaration now and then.
func (m maker) spoilDecl(d *api.Decl) {
	if m.slip() {
		d.Name = pick(m.numbers, m.word(), "f0", "f1")
	}
	if m.slip() {
		d.Number = pick(m.numbers, 21, 63, 64, -1, 1<<31, 1<<31+1, -1<<31-1)
	}
	if m.slip() {
		d.Ret = m.word()
	}
	if m.slip() && m.slips > 20 {
		d.Kind = pick(m.numbers, 0, 1, 2, 3, 4, 5, 6, 7)
	}
	d.At = m.next(9)
}

// TestCompare: declarations with few slips and with many. Each fault that the chapter names is met, and so are tables.
func TestCompare(t *testing.T) {
	n := numbers(1)
	met := map[string]int{}
	for i := range 40000 {
		_, e := same(t, maker{&n, []int{0, 2, 5, 50}[i%4]}.decls())
		why := "none"
		if e != nil {
			why = fmt.Sprint(int(e.(api.Fault).Why))
		}
		met[why]++
	}
	for _, why := range []string{"none", "4", "140", "141", "142", "143", "144", "153"} {
		if met[why] < 100 {
			t.Errorf("too few of %s: %v", why, met)
		}
	}
	if len(met) != 8 {
		t.Errorf("met %v", met)
	}
}

// TestWebs: structs and unions that hold one another as they like.
func TestWebs(t *testing.T) {
	n := numbers(5)
	loops := 0
	for range 20000 {
		l := make([]api.Decl, 1+n.next(7))
		for i := range l {
			l[i] = api.Decl{Kind: pick(&n, api.DeclStruct, api.DeclUnion), Name: fmt.Sprint("s", i)}
			for k := range 1 + n.next(2) {
				e := api.Expr{Name: fmt.Sprint("s", n.next(len(l)))}
				switch n.next(5) {
				case 0, 1:
					e.Name = "int8"
				case 2:
					e = api.Expr{Name: "array", Types: []api.Expr{e}, Values: []int{0}}
				}
				l[i].Fields = append(l[i].Fields, api.Field{Name: fmt.Sprint("f", k), Type: e})
			}
		}
		if _, e := same(t, l); e != nil {
			loops++
		}
	}
	if loops < 2000 || loops > 18000 {
		t.Errorf("%d have loops", loops)
	}
}

// TestCompiled: what Compile tells of a text is what Check tells of its declarations, at their bytes.
func TestCompiled(t *testing.T) {
	n := numbers(2)
	compared, faults := 0, 0
	for i := range 5000 {
		s := parse.Print(maker{&n, []int{0, 5}[i%2]}.decls())
		l, e := parse.Parse(s)
		if e != nil {
			continue
		}
		compared++
		want, why := types.Check(l)
		x, e := types.Compile(s)
		if why == nil {
			if e != nil || !sameTable(x, want) {
				t.Fatalf("%s: %+v, %v, want %+v", s, x, e, want)
			}
			continue
		}
		faults++
		f := why.(api.Fault)
		isFault(t, s, x, e, l[f.At].At, f.Why)
	}
	if compared < 3000 || faults < 1000 || compared-faults < 500 {
		t.Errorf("%d compared, %d of them with faults", compared, faults)
	}
}

// TestPlacesOfTypes: each type stands behind those that it is made of; all places lie within, and each but an argument's is used once.
func TestPlacesOfTypes(t *testing.T) {
	n := numbers(3)
	tables := 0
	for range 4000 {
		x, e := types.Check(maker{&n, 0}.decls())
		if e != nil {
			continue
		}
		tables++
		uses := make([]int, len(x.Types))
		for i, y := range x.Types {
			for _, k := range y.Elems {
				if k < 0 || k >= i {
					t.Fatalf("type %d is made of %d: %+v", i, k, x)
				}
				uses[k]++
			}
		}
		for _, c := range x.Calls {
			for _, k := range c.Args {
				if k < 0 || k >= len(x.Types) {
					t.Fatalf("an argument at %d: %+v", k, x)
				}
				uses[k]++
			}
		}
		for i, u := range uses {
			if u != 1 {
				t.Fatalf("type %d is used %d times: %+v", i, u, x)
			}
		}
	}
	if tables < 1000 {
		t.Errorf("only %d tables", tables)
	}
}

// used is the declarations that calls use, over others.
func used(l []api.Decl) []api.Decl {
	uses := map[string]int{}
	var into func(f []api.Field)
	var name func(s string)
	var typed func(e api.Expr)
	name = func(s string) {
		if uses[s]++; uses[s] > 1 {
			return
		}
		for _, d := range l {
			if d.Kind != api.DeclCall && d.Name == s {
				into(d.Fields)
			}
		}
	}
	typed = func(e api.Expr) {
		name(e.Name)
		for _, s := range e.Names {
			name(s)
		}
		for _, x := range e.Types {
			typed(x)
		}
	}
	into = func(l []api.Field) {
		for _, f := range l {
			typed(f.Type)
		}
	}
	for _, d := range l {
		if d.Kind == api.DeclCall {
			name(d.Ret)
			into(d.Fields)
		}
	}
	return slices.DeleteFunc(slices.Clone(l), func(d api.Decl) bool { return d.Kind != api.DeclCall && uses[d.Name] == 0 })
}

// TestUnused: declarations that no call uses change nothing of the table.
func TestUnused(t *testing.T) {
	n := numbers(4)
	fewer := 0
	for range 4000 {
		l := maker{&n, 0}.decls()
		x, e := types.Check(l)
		if e != nil {
			continue
		}
		less := used(l)
		if len(less) < len(l) {
			fewer++
		}
		if y, e := types.Check(less); e != nil || !reflect.DeepEqual(trimTable(x), trimTable(y)) {
			t.Fatalf("%s: %+v, %v, want %+v", parse.Print(less), y, e, x)
		}
		more := append(slices.Clone(l), wide("idle", 500), api.Decl{Kind: api.DeclUnion, Name: "idle$", Fields: []api.Field{{Name: "a", Type: api.Expr{Name: "idle"}}, {Name: "b", Type: api.Expr{Name: "s0"}}}})
		slices.Reverse(more[len(l):])
		if y, e := types.Check(append(more[len(l):len(more):len(more)], l...)); e != nil || !sameTable(x, y) {
			t.Fatalf("%s, with more: %+v, %v, want %+v", parse.Print(l), y, e, x)
		}
	}
	if fewer < 1000 {
		t.Errorf("only %d have fewer", fewer)
	}
}
