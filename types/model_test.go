package types_test

import (
	"regexp"
	"slices"
	"strings"

	"dredger/api"
)

// The model tells all faults of declarations, each with a key that says how early it comes, and takes the least one.

type mistake struct {
	key []int
	at  int
	why api.Errno
}

type model struct {
	decls    []api.Decl
	mistakes []mistake
}

// wrong keeps a fault, if it is one.
func (m *model) wrong(is bool, at int, why api.Errno, key ...int) {
	if is {
		m.mistakes = append(m.mistakes, mistake{key, at, why})
	}
}

// modelCheck is Check, as the chapter says it.
func modelCheck(l []api.Decl) (api.Table, error) {
	m := &model{decls: l}
	for i, d := range l {
		m.early(i, d)
	}
	if len(m.mistakes) == 0 {
		for i, d := range l {
			m.late(i, d)
		}
	}
	if len(m.mistakes) > 0 {
		first := slices.MinFunc(m.mistakes, func(a, b mistake) int { return slices.Compare(a.key, b.key) })
		return api.Table{}, api.Fault{At: first.at, Why: first.why}
	}
	return m.table()
}

const modelInts = " int8 int16 int32 int64 "

// among: is a word one of a text's, which has blanks around each?
func among(word, text string) bool {
	return word != "" && strings.Contains(text, " "+word+" ")
}

func beyond(v, from, to int) bool { return v < from || v > to }

// early is the faults that hang on no type.
func (m *model) early(i int, d api.Decl) {
	const two31 = 2147483648
	call, resource, flags := d.Kind == 6, d.Kind == 1, d.Kind == 2
	m.wrong(beyond(d.Kind, 1, 6), i, api.ErrType, i, 0)
	m.wrong(!call && among(d.Name, modelInts+"const flags len ptr array text data in out inout "), i, api.ErrTwice, i, 1)
	for _, e := range m.decls[:i] {
		m.wrong((e.Kind == 6) == call && e.Name == d.Name, i, api.ErrTwice, i, 1)
		m.wrong(e.Kind == 6 && call && e.Number == d.Number, i, api.ErrTwice, i, 3)
	}
	m.wrong(call && beyond(d.Number, 0, 63), i, api.ErrValue, i, 2)
	for k, f := range d.Fields {
		for _, g := range d.Fields[:k] {
			m.wrong(f.Name == g.Name, i, api.ErrTwice, i, 4)
		}
	}
	m.wrong(resource && !among(d.Base, modelInts), i, api.ErrType, i, 5)
	m.wrong((resource || flags) && len(d.Values) == 0, i, api.ErrEmpty, i, 6)
	m.wrong((d.Kind == 4 || d.Kind == 5) && len(d.Fields) == 0, i, api.ErrEmpty, i, 6)
	for _, v := range d.Values {
		m.wrong(resource && beyond(v, -two31, two31), i, api.ErrValue, i, 7)
		m.wrong(flags && beyond(v, 0, two31), i, api.ErrValue, i, 7)
	}
	m.wrong(d.Kind == 3 && beyond(d.Number, -two31, two31), i, api.ErrValue, i, 7)
}

// find is the declaration of a name, of one of some kinds (as digits), but for calls.
func (m *model) find(name, kinds string) (api.Decl, bool) {
	for _, d := range m.decls {
		if d.Name == name && strings.Contains(kinds, string(rune('0'+d.Kind))) {
			return d, true
		}
	}
	return api.Decl{}, false
}

// what is a type's row, as a word.
func (m *model) what(e api.Expr) string {
	if among(e.Name, modelInts) {
		return "int"
	}
	if among(e.Name, " const flags len ptr array text data ") {
		return e.Name
	}
	d, _ := m.find(e.Name, "145")
	return []string{0: "", 1: "res", 4: "struct", 5: "union"}[d.Kind]
}

// late is the faults that hang on types.
func (m *model) late(i int, d api.Decl) {
	places := map[int]string{4: "struct", 5: "union", 6: "call"}
	place, ok := places[d.Kind]
	if !ok {
		return
	}
	for k, f := range d.Fields {
		m.typed(i, f.Type, place, k, 0)
	}
	m.wrong(place != "call" && m.holds(d.Name)[d.Name] > 0, i, api.ErrLoop, i, 1)
	m.wrong(place == "call" && len(d.Fields) > 6, i, api.ErrFull, i, 1)
	_, known := m.find(d.Ret, "1")
	m.wrong(place == "call" && d.Ret != "" && !known, i, api.ErrName, i, 2)
}

// mayBe is the rows that may stand at places.
var mayBe = map[string]string{
	"call":   " int const flags len res ptr ",
	"struct": " int const flags len res array struct union text data ",
	"union":  " int const flags res array struct union text data ",
	"inner":  " int const flags res array struct union text data ",
}

// shapes is the parts of rows: T a type, N a name, V a number, X a text.
var shapes = map[string]*regexp.Regexp{
	"int":    regexp.MustCompile("^(VV)?$"),
	"const":  regexp.MustCompile("^(NV|NN)$"),
	"flags":  regexp.MustCompile("^NN$"),
	"len":    regexp.MustCompile("^NN$"),
	"res":    regexp.MustCompile("^$"),
	"ptr":    regexp.MustCompile("^TN$"),
	"array":  regexp.MustCompile("^TVV?$"),
	"struct": regexp.MustCompile("^$"),
	"union":  regexp.MustCompile("^$"),
	"text":   regexp.MustCompile("^X+$"),
	"data":   regexp.MustCompile("^VV?$"),
}

var tops = map[string]int{"int8": 255, "int16": 65535, "int32": 2147483648, "int64": 2147483648, "const": 2147483648, "array": 8, "data": 64}

func (m *model) typed(i int, e api.Expr, place string, field, level int) {
	what := m.what(e)
	m.wrong(what == "", i, api.ErrName, i, 0, field, level, 0)
	m.wrong(!among(what, mayBe[place]), i, api.ErrType, i, 0, field, level, 1)
	shape := strings.Repeat("T", len(e.Types)) + strings.Repeat("N", len(e.Names)) + strings.Repeat("V", len(e.Values)) + strings.Repeat("X", len(e.Texts))
	names := slices.Concat(e.Names, []string{"", ""}) // so that there are two to be asked
	lastName := slices.Concat([]string{""}, e.Names)[len(e.Names)]
	m.wrong(what == "" || !shapes[what].MatchString(shape), i, api.ErrType, i, 0, field, level, 2)
	m.wrong(among(what, " const flags len ") && !among(lastName, modelInts), i, api.ErrType, i, 0, field, level, 2)
	m.wrong(what == "ptr" && !among(names[0], " in out inout "), i, api.ErrType, i, 0, field, level, 2)
	_, constant := m.find(names[0], "3")
	_, flags := m.find(names[0], "2")
	m.wrong(what == "const" && shape == "NN" && !constant || what == "flags" && !flags, i, api.ErrName, i, 0, field, level, 3)
	bottom := map[string]int{"const": -2147483648}[what]
	for _, v := range e.Values {
		m.wrong(beyond(v, bottom, tops[e.Name]), i, api.ErrValue, i, 0, field, level, 4)
	}
	for _, s := range e.Texts {
		m.wrong(len(s) > 24, i, api.ErrValue, i, 0, field, level, 4)
	}
	m.wrong(!slices.IsSorted(e.Values), i, api.ErrEmpty, i, 0, field, level, 5)
	of := slices.IndexFunc(m.decls[i].Fields, func(f api.Field) bool { return f.Name == names[0] })
	m.wrong(what == "len" && of < 0, i, api.ErrName, i, 0, field, level, 6)
	m.wrong(what == "len" && of >= 0 && m.decls[i].Fields[max(of, 0)].Type.Name == "len", i, api.ErrType, i, 0, field, level, 7)
	for _, x := range e.Types {
		m.typed(i, x, "inner", field, level+1)
	}
}

// holds is the names that a struct or union holds, over any others, each with how often it was met.
func (m *model) holds(name string) map[string]int {
	met := map[string]int{}
	var into func(e api.Expr)
	fields := func(name string) {
		d, _ := m.find(name, "45")
		for _, f := range d.Fields {
			into(f.Type)
		}
	}
	into = func(e api.Expr) {
		met[e.Name]++
		if met[e.Name] == 1 {
			fields(e.Name)
		}
		for _, x := range e.Types {
			into(x)
		}
	}
	fields(name)
	return met
}

// tree is a type with those that it is made of.
type tree struct {
	api.Type
	kids []tree
}

// size is how many types a type as it is written makes (or some number that is too many), and how great the greatest of them and it itself are.
func (m *model) size(e api.Expr, known map[string][3]int) [3]int {
	var parts []api.Expr
	what := m.what(e)
	if what == "struct" || what == "union" {
		if n, ok := known[e.Name]; ok {
			return n
		}
		d, _ := m.find(e.Name, "45")
		for _, f := range d.Fields {
			parts = append(parts, f.Type)
		}
	} else {
		parts = e.Types
	}
	n := [3]int{1, 0, 1}
	for _, x := range parts {
		k := m.size(x, known)
		n[0] = min(n[0]+k[0], 1000)
		n[1] = max(n[1], k[1])
		switch what {
		case "array":
			n[2] += e.Values[len(e.Values)-1] * k[2]
		case "union":
			n[2] = max(n[2], 1+k[2])
		default:
			n[2] += k[2]
		}
		n[2] = min(n[2], 1000)
	}
	n[1] = max(n[1], n[2])
	if what == "struct" || what == "union" {
		known[e.Name] = n
	}
	return n
}

// table lays the trees of all arguments down, the parts ahead of the whole.
func (m *model) table() (api.Table, error) {
	known := map[string][3]int{}
	count := 0
	for _, d := range m.decls {
		for _, f := range d.Fields {
			if d.Kind == 6 {
				n := m.size(f.Type, known)
				count += n[0]
				if count > 400 || n[1] > 300 {
					return api.Table{}, api.Fault{At: 0, Why: api.ErrFull}
				}
			}
		}
	}
	var t api.Table
	for _, d := range m.decls {
		if d.Kind != 6 {
			continue
		}
		c := api.Call{Name: d.Name, Number: d.Number, Ret: d.Ret}
		for _, f := range d.Fields {
			c.Args, c.Names = append(c.Args, lay(&t, m.tree(f.Type))), append(c.Names, f.Name)
		}
		t.Calls = append(t.Calls, c)
	}
	return t, nil
}

func lay(t *api.Table, x tree) int {
	for _, k := range x.kids {
		x.Elems = append(x.Elems, lay(t, k))
	}
	t.Types = append(t.Types, x.Type)
	return len(t.Types) - 1
}

func (m *model) tree(e api.Expr) tree {
	sizes := map[string]int{"int8": 1, "int16": 2, "int32": 4, "int64": 8}
	what := m.what(e)
	kinds := map[string]int{"int": 1, "const": 2, "flags": 3, "len": 4, "res": 5, "ptr": 6, "array": 7, "struct": 8, "union": 9, "text": 10, "data": 11}
	x := tree{Type: api.Type{Kind: kinds[what], Size: sizes[e.Name]}}
	for _, n := range e.Names {
		x.Size = sizes[n]
	}
	for _, k := range e.Types {
		x.kids = append(x.kids, m.tree(k))
	}
	x.Texts = append(x.Texts, e.Texts...)
	switch what {
	case "int":
		x.Hi = tops[e.Name]
		fallthrough
	case "array", "data":
		for _, v := range slices.Backward(e.Values) {
			x.Lo = v
		}
		for _, v := range e.Values {
			x.Hi = v
		}
	case "const":
		d, _ := m.find(e.Names[0], "3")
		for _, v := range slices.Concat([]int{d.Number}, e.Values) {
			x.Lo = v
		}
	case "flags":
		d, _ := m.find(e.Names[0], "2")
		x.Values = append(x.Values, d.Values...)
	case "len":
		x.Of = e.Names[0]
	case "ptr":
		x.Size, x.Dir = 8, map[string]int{"in": 1, "out": 2, "inout": 3}[e.Names[0]]
	case "res":
		d, _ := m.find(e.Name, "1")
		x.Of, x.Size = d.Name, sizes[d.Base]
		x.Values = append(x.Values, d.Values...)
	case "struct", "union":
		d, _ := m.find(e.Name, "45")
		x.Of = d.Name
		for _, f := range d.Fields {
			x.kids, x.Names = append(x.kids, m.tree(f.Type)), append(x.Names, f.Name)
		}
	}
	return x
}
