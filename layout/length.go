package layout

import (
	"dredger/api"
	"dredger/prog"
	"dredger/walk"
)

// measured is the same program, whose lengths have their values; of a step that is wrong in other ways nothing hangs on what they are.
func measured(t api.Table, p api.Program) api.Program {
	q := prog.Copy(p)
	for _, s := range q {
		walk.Through(t, walk.Of(t, s), func(s walk.Spot) bool {
			if s.Type.Kind == api.TypeLen && s.Arg.Kind == api.ArgValue {
				s.Arg.Value = length(t, s)
			}
			return true
		})
	}
	return q
}

// length is the value that a length must have where it stands; 0, if what it tells the size of is wrong.
func length(t api.Table, s walk.Spot) int {
	of, ok := s.Measured(t)
	if !ok {
		return 0
	}
	n, _ := prog.Size(t, of.Place, *of.Arg)
	return n
}
