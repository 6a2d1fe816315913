package prog

import (
	"slices"

	"dredger/api"
)

const (
	maxTableCalls = 64
	lastNumber    = 63  // of calls
	greatestType  = 300 // how great a type may be
	pointerSize   = 8
)

// typesMayBe asks of each type for its elems first, as how great it is can be told only where these lie ahead of it.
func typesMayBe(l []api.Type) bool {
	great := make([]int, len(l)) // how great each type is
	for i, ty := range l {
		if !hasElems(ty, i) || !hasParts(ty) {
			return false
		}
		great[i] = howGreat(ty, great)
		if great[i] > greatestType {
			return false
		}
	}
	return true
}

// hasElems: is the type at a place made of as many types as its kind is, all of them ahead of it?
func hasElems(ty api.Type, place int) bool {
	for _, k := range ty.Elems {
		if k < 0 || k >= place {
			return false
		}
	}
	switch ty.Kind {
	case api.TypePtr, api.TypeArray:
		return len(ty.Elems) == 1
	case api.TypeStruct, api.TypeUnion:
		return len(ty.Elems) > 0 && len(ty.Names) == len(ty.Elems)
	}
	return len(ty.Elems) == 0
}

// hasParts: is its kind one, and does the type have what its kind needs beside elems?
func hasParts(ty api.Type) bool {
	switch ty.Kind {
	case api.TypeInt:
		return isSize(ty.Size) && ty.Lo <= ty.Hi
	case api.TypeConst, api.TypeFlags, api.TypeLen:
		return isSize(ty.Size)
	case api.TypeRes:
		return isSize(ty.Size) && len(ty.Values) > 0
	case api.TypePtr:
		return ty.Size == pointerSize && ty.Dir >= api.DirIn && ty.Dir <= api.DirInOut
	case api.TypeArray:
		return isRange(ty, api.MaxItems)
	case api.TypeStruct, api.TypeUnion:
		return true
	case api.TypeText:
		return len(ty.Texts) > 0 && !slices.ContainsFunc(ty.Texts, isLong)
	case api.TypeData:
		return isRange(ty, api.MaxData)
	}
	return false
}

func isSize(n int) bool { return n == 1 || n == 2 || n == 4 || n == 8 }

// isRange: do a type's counts go from 0 up, and no further than to the greatest one?
func isRange(ty api.Type, most int) bool { return 0 <= ty.Lo && ty.Lo <= ty.Hi && ty.Hi <= most }

func isLong(text string) bool { return len(text) > api.MaxPath }

// howGreat is how great a type is, all of whose elems' greatness is known.
func howGreat(ty api.Type, great []int) int {
	sum, most := 0, 0
	for _, k := range ty.Elems {
		sum += great[k]
		most = max(most, great[k])
	}
	switch ty.Kind {
	case api.TypeArray:
		return 1 + ty.Hi*sum
	case api.TypeUnion:
		return 1 + most
	}
	return 1 + sum
}

// callsMayBe asks of each call for its arguments' types, their names, its number.
func callsMayBe(t api.Table) bool {
	for _, c := range t.Calls {
		if len(c.Args) > api.MaxArgs || len(c.Names) != len(c.Args) || c.Number < 0 || c.Number > lastNumber {
			return false
		}
		for _, k := range c.Args {
			if k < 0 || k >= len(t.Types) {
				return false
			}
		}
	}
	return true
}
