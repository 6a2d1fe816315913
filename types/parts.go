package types

import "dredger/api"

// counts is how many parts of each kind a type has.
type counts struct{ types, names, values, texts int }

// hasParts: does a type as it is written have the parts of its kind?
func hasParts(kind int, e api.Expr) bool {
	n := counts{len(e.Types), len(e.Names), len(e.Values), len(e.Texts)}
	switch kind {
	case api.TypeInt:
		return n == counts{} || n == counts{values: 2}
	case api.TypeConst:
		return (n == counts{names: 1, values: 1} || n == counts{names: 2}) && sizeOf(last(e.Names)) != 0
	case api.TypeFlags, api.TypeLen:
		return n == counts{names: 2} && sizeOf(last(e.Names)) != 0
	case api.TypePtr:
		return n == counts{types: 1, names: 1} && dirOf(e.Names[0]) != 0
	case api.TypeArray:
		return n == counts{types: 1, values: 1} || n == counts{types: 1, values: 2}
	case api.TypeText:
		return n.texts > 0 && n == counts{texts: n.texts}
	case api.TypeData:
		return n == counts{values: 1} || n == counts{values: 2}
	}
	return n == counts{}
}

// last is where the integer type stands in which a value is kept.
func last(names []string) string { return names[len(names)-1] }
