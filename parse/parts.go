package parse

import (
	"slices"

	"dredger/api"
)

// part is a part of a type as it is written; its kind is that of the token that it begins with.
type part struct {
	kind    int
	expr    api.Expr
	numbers []int
	text    string
}

func typePart(e api.Expr) part { return part{kind: api.TokName, expr: e} }

func namePart(name string) part { return typePart(api.Expr{Name: name}) }

func textPart(text string) part { return part{kind: api.TokText, text: text} }

func numberPart(n int) part { return part{kind: api.TokNumber, numbers: []int{n}} }

// addPart adds the part at a place of a type to the list where it belongs.
func addPart(e *api.Expr, place int, x part) {
	switch {
	case x.kind == api.TokNumber:
		e.Values = append(e.Values, x.numbers...)
	case x.kind == api.TokText:
		e.Texts = append(e.Texts, x.text)
	case isBare(x.expr) && !wantsType(e.Name, place):
		e.Names = append(e.Names, x.expr.Name)
	default:
		e.Types = append(e.Types, x.expr)
	}
}

// isBare: is the type a name alone?
func isBare(e api.Expr) bool {
	return len(e.Types)+len(e.Names)+len(e.Values)+len(e.Texts) == 0
}

// wantsType: is the part at a place of a type of that name a type, even if it is a name alone?
func wantsType(name string, place int) bool {
	return name == "ptr" && place == 1 || name == "array" && place == 0
}

// partsOf is the parts of a type that are printed, in their order.
func partsOf(e api.Expr) []part {
	types, names := made(e.Types, typePart), made(e.Names, namePart)
	texts, numbers := made(e.Texts, textPart), made(e.Values, numberPart)
	switch e.Name {
	case "ptr":
		return slices.Concat(names, types)
	case "array":
		return slices.Concat(types, numbers)
	}
	return slices.Concat(types, names, texts, numbers)
}

// made is what a function makes of each item.
func made[T any](l []T, from func(T) part) []part {
	parts := make([]part, len(l))
	for i, x := range l {
		parts[i] = from(x)
	}
	return parts
}
