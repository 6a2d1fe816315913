package prog

import (
	"bytes"
	"slices"

	"dredger/api"
	"dredger/walk"
)

func sameStep(a, b api.Step) bool {
	return a.Call == b.Call && slices.EqualFunc(a.Args, b.Args, sameArg)
}

func sameArg(a, b api.Arg) bool {
	return a.Kind == b.Kind && a.Value == b.Value && bytes.Equal(a.Bytes, b.Bytes) && slices.EqualFunc(a.Kids, b.Kids, sameArg)
}

// copyArgs is the same arguments in memory of their own: the walk goes into the kids that it has just copied.
func copyArgs(l []api.Arg) []api.Arg {
	m := slices.Clone(l)
	walk.Through(api.Table{}, walk.Row{Args: m}, func(s walk.Spot) bool {
		s.Arg.Kids = slices.Clone(s.Arg.Kids)
		s.Arg.Bytes = slices.Clone(s.Arg.Bytes)
		return true
	})
	return m
}

// without is a program of the table without one of its steps.
func without(t api.Table, p api.Program, i int) api.Program {
	q := slices.Delete(Copy(p), i, i+1)
	eachReference(t, q[i:], func(s walk.Spot) {
		switch {
		case s.Arg.Value == i:
			*s.Arg = special(s.Type)
		case s.Arg.Value > i:
			s.Arg.Value--
		}
	})
	return q
}

// with is a program of the table with another step ahead of one of its own. That step is handed on as it is, as it may be anything so far.
func with(t api.Table, p api.Program, i int, s api.Step) api.Program {
	q := slices.Insert(Copy(p), i, s)
	eachReference(t, q[i+1:], func(s walk.Spot) {
		if s.Arg.Value >= i {
			s.Arg.Value++
		}
	})
	return q
}

// eachReference hands the references of steps to a function.
func eachReference(t api.Table, p api.Program, change func(walk.Spot)) {
	for _, s := range p {
		walk.Through(t, walk.Of(t, s), func(s walk.Spot) bool {
			if s.Arg.Kind == api.ArgRef {
				change(s)
			}
			return true
		})
	}
}
