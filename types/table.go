package types

import (
	"slices"

	"dredger/api"
)

const (
	greatestType = 300 // how great a type may be
	pointerSize  = 8
)

// builder makes the table of declarations that keep the rules.
type builder struct {
	*checker
	made  api.Table
	met   int   // types that were begun
	great []int // how great each type of the table is
}

// table is what the declarations say.
func (c *checker) table() api.Table {
	b := builder{checker: c}
	b.at = 0
	for _, d := range c.decls {
		if d.Kind == api.DeclCall {
			b.addCall(d)
		}
	}
	return b.made
}

func (b *builder) addCall(d api.Decl) {
	call := api.Call{Name: d.Name, Number: d.Number, Ret: d.Ret}
	call.Args, call.Names = b.addFields(d.Fields)
	b.made.Calls = append(b.made.Calls, call)
}

// addFields is the places of fields' types, and the fields' names.
func (b *builder) addFields(l []api.Field) (places []int, names []string) {
	for _, f := range l {
		places = append(places, b.add(f.Type))
		names = append(names, f.Name)
	}
	return places, names
}

// add adds a type, behind all that it is made of, and is its place.
func (b *builder) add(e api.Expr) int {
	// Types are counted where they begin, as structs may hold far more of them than there is room for.
	b.met++
	b.must(b.met <= api.MaxTypes, api.ErrFull)
	t := b.plain(e)
	switch t.Kind {
	case api.TypePtr, api.TypeArray:
		t.Elems = []int{b.add(e.Types[0])}
	case api.TypeStruct, api.TypeUnion:
		t.Elems, t.Names = b.addFields(b.declared(e.Name).Fields)
	}
	n := b.howGreat(t)
	b.must(n <= greatestType, api.ErrFull)
	b.great = append(b.great, n)
	b.made.Types = append(b.made.Types, t)
	return len(b.made.Types) - 1
}

// howGreat is how great a type is, all of whose elems are added.
func (b *builder) howGreat(t api.Type) int {
	sum, most := 0, 0
	for _, k := range t.Elems {
		sum += b.great[k]
		most = max(most, b.great[k])
	}
	switch t.Kind {
	case api.TypeArray:
		return 1 + t.Hi*sum
	case api.TypeUnion:
		return 1 + most
	}
	return 1 + sum
}

// plain is a type but for what it is made of.
func (b *builder) plain(e api.Expr) api.Type {
	t := api.Type{Kind: b.kindOf(e.Name)}
	switch t.Kind {
	case api.TypeInt:
		t.Size, t.Hi = sizeOf(e.Name), greatestOf(sizeOf(e.Name))
		if len(e.Values) > 0 {
			t.Lo, t.Hi = ends(e.Values)
		}
	case api.TypeConst:
		t.Size, t.Lo = sizeOf(last(e.Names)), b.constant(e)
	case api.TypeFlags:
		t.Size, t.Values = sizeOf(last(e.Names)), slices.Clone(b.declared(e.Names[0]).Values)
	case api.TypeLen:
		t.Size, t.Of = sizeOf(last(e.Names)), e.Names[0]
	case api.TypeRes:
		d := b.declared(e.Name)
		t.Size, t.Of, t.Values = sizeOf(d.Base), d.Name, slices.Clone(d.Values)
	case api.TypePtr:
		t.Size, t.Dir = pointerSize, dirOf(e.Names[0])
	case api.TypeArray, api.TypeData:
		t.Lo, t.Hi = ends(e.Values)
	case api.TypeStruct, api.TypeUnion:
		t.Of = e.Name
	case api.TypeText:
		t.Texts = slices.Clone(e.Texts)
	}
	return t
}

// declared is the declaration of a name.
func (b *builder) declared(name string) api.Decl { return b.decls[b.named[name]] }

// constant is the number of a const as it is written, or of the declaration that it names.
func (b *builder) constant(e api.Expr) int {
	if len(e.Values) > 0 {
		return e.Values[0]
	}
	return b.declared(e.Names[0]).Number
}

// ends is the first and the last of one number or two.
func ends(values []int) (lo, hi int) { return values[0], values[len(values)-1] }
