// Package walk is the one walk over arguments that all who look at programs, or change them, share. It is no layer: it asks nothing of a program, and goes on where types and arguments do not fit one another.
package walk

import (
	"slices"

	"dredger/api"
)

// Row is arguments that stand beside one another: a step's, or an argument's kids.
type Row struct {
	Args  []api.Arg
	Types []int    // places of their types, as far as these are known
	Names []string // none, where arguments stand without names
}

// Of is the row of a step.
func Of(t api.Table, s api.Step) Row {
	if s.Call < 0 || s.Call >= len(t.Calls) {
		return Row{Args: s.Args}
	}
	c := t.Calls[s.Call]
	return Row{s.Args, c.Args, c.Names}
}

// One is the row of a single argument, with its type's place.
func One(n int, a api.Arg) Row { return Row{Args: []api.Arg{a}, Types: []int{n}} }

// Spot is an argument where it stands.
type Spot struct {
	Arg   *api.Arg
	Place int      // its type's; -1: not known
	Type  api.Type // of no kind, if it is not known
	row   Row
}

// At is what stands at a place of a row.
func (r Row) At(t api.Table, k int) Spot {
	s := Spot{Arg: &r.Args[k], Place: -1, row: r}
	if k < len(r.Types) && r.Types[k] >= 0 && r.Types[k] < len(t.Types) {
		s.Place = r.Types[k]
		s.Type = t.Types[s.Place]
	}
	return s
}

// Kids is the row of what an argument is made of.
func (s Spot) Kids() Row {
	r := Row{Args: s.Arg.Kids}
	elems := s.Type.Elems
	switch s.Type.Kind {
	case api.TypePtr, api.TypeArray:
		if len(elems) == 1 {
			r.Types = slices.Repeat(elems, len(r.Args))
		}
	case api.TypeStruct:
		r.Types, r.Names = elems, s.Type.Names
	case api.TypeUnion:
		if part := s.Arg.Value; part >= 0 && part < len(elems) {
			r.Types = elems[part : part+1]
		}
	}
	return r
}

// Through hands each argument of a row to a function, from outside in, the kids in order. What the function answers false of is not gone into; what it made of an argument is.
func Through(t api.Table, r Row, visit func(Spot) bool) {
	for k := range r.Args {
		if s := r.At(t, k); visit(s) {
			Through(t, s.Kids(), visit)
		}
	}
}

// Measured is what a length tells the size of: the argument beside it that has the name, or what that one points to. False: there is none.
func (s Spot) Measured(t api.Table) (Spot, bool) {
	k := slices.Index(s.row.Names, s.Type.Of)
	if k < 0 || k >= len(s.row.Args) {
		return Spot{}, false
	}
	m := s.row.At(t, k)
	if m.Arg.Kind != api.ArgPtr {
		return m, true
	}
	kids := m.Kids()
	if len(kids.Args) == 0 {
		return Spot{}, false
	}
	return kids.At(t, 0), true
}
