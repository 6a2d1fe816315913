package prog

import (
	"slices"

	"dredger/api"
	"dredger/walk"
)

// firstFault is the first step that is wrong, and why; OK, if none is.
func firstFault(t api.Table, p api.Program) api.Fault {
	if !Can(t) {
		return api.Fault{Why: api.ErrArg}
	}
	if len(p) > api.MaxCalls {
		return api.Fault{Why: api.ErrFull}
	}
	for i, s := range p {
		if why := wrongStep(t, p[:i], s); why != api.OK {
			return api.Fault{At: i, Why: why}
		}
	}
	return api.Fault{}
}

// wrongStep is what is wrong with a step that stands behind others.
func wrongStep(t api.Table, ahead api.Program, s api.Step) api.Errno {
	if s.Call < 0 || s.Call >= len(t.Calls) {
		return api.ErrCall
	}
	row := walk.Of(t, s)
	if len(row.Args) != len(row.Types) {
		return api.ErrCount
	}
	why := first(t, row, func(s walk.Spot) api.Errno {
		if why := misfit(s); why != api.OK {
			return why
		}
		if s.Arg.Kind == api.ArgRef && !makes(t, ahead, s.Arg.Value, s.Type.Of) {
			return api.ErrRef
		}
		return api.OK
	})
	if why != api.OK {
		return why
	}
	return first(t, row, func(s walk.Spot) api.Errno {
		if s.Type.Kind == api.TypeLen && s.Arg.Value != length(t, s) {
			return api.ErrLen
		}
		return api.OK
	})
}

// first is the first number but OK that a question answers of a row's arguments; what lies within is asked only when all around it is right.
func first(t api.Table, r walk.Row, ask func(walk.Spot) api.Errno) api.Errno {
	why := api.OK
	walk.Through(t, r, func(s walk.Spot) bool {
		if why == api.OK {
			why = ask(s)
		}
		return why == api.OK
	})
	return why
}

// makes: is there a step at a place, whose call makes the resource?
func makes(t api.Table, p api.Program, place int, resource string) bool {
	return place >= 0 && place < len(p) && t.Calls[p[place].Call].Ret == resource
}

// misfit is what is wrong with an argument itself, but for lengths, and for which step a reference names.
func misfit(s walk.Spot) api.Errno {
	switch {
	case !kindFits(s.Type, *s.Arg):
		return api.ErrKind
	case !countFits(s.Type, len(s.Arg.Kids)):
		return api.ErrCount
	case s.Arg.Kind != api.ArgRef && !valueFits(s.Type, *s.Arg):
		return api.ErrValue
	}
	return api.OK
}

// kindFits: is an argument of the kind that its type asks for, without fields of other kinds?
func kindFits(ty api.Type, a api.Arg) bool {
	bare := len(a.Kids) == 0 && len(a.Bytes) == 0
	switch ty.Kind {
	case api.TypeRes:
		return (a.Kind == api.ArgValue || a.Kind == api.ArgRef) && bare
	case api.TypePtr:
		return a.Kind == api.ArgPtr && a.Value == 0 && len(a.Bytes) == 0
	case api.TypeArray, api.TypeStruct:
		return a.Kind == api.ArgGroup && a.Value == 0 && len(a.Bytes) == 0
	case api.TypeUnion:
		return a.Kind == api.ArgUnion && len(a.Bytes) == 0
	case api.TypeText, api.TypeData:
		return a.Kind == api.ArgData && a.Value == 0 && len(a.Kids) == 0
	}
	return a.Kind == api.ArgValue && bare
}

// countFits: may an argument of a type have so many kids?
func countFits(ty api.Type, kids int) bool {
	switch ty.Kind {
	case api.TypePtr:
		return kids <= 1
	case api.TypeArray:
		return isWithin(ty, kids)
	case api.TypeStruct:
		return kids == len(ty.Elems)
	case api.TypeUnion:
		return kids == 1
	}
	return true
}

// valueFits: does the type have an argument's value, or its bytes?
func valueFits(ty api.Type, a api.Arg) bool {
	switch ty.Kind {
	case api.TypeInt:
		return isWithin(ty, a.Value)
	case api.TypeConst:
		return a.Value == ty.Lo
	case api.TypeFlags:
		return isOred(a.Value, ty.Values)
	case api.TypeRes:
		return slices.Contains(ty.Values, a.Value)
	case api.TypeUnion:
		return a.Value >= 0 && a.Value < len(ty.Elems)
	case api.TypeText:
		return slices.Contains(ty.Texts, string(a.Bytes))
	case api.TypeData:
		return isWithin(ty, len(a.Bytes))
	}
	return true
}

func isWithin(ty api.Type, n int) bool { return ty.Lo <= n && n <= ty.Hi }

// isOred: is a value some of others, or-ed? Those that have no bit beside the value's are all that may be among them, and no one of them does harm.
func isOred(value int, of []int) bool {
	bits := 0
	for _, v := range of {
		if v&^value == 0 {
			bits |= v
		}
	}
	return bits == value
}
