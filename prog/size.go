package prog

import (
	"dredger/api"
	"dredger/walk"
)

// size is how many bytes the arguments of a row have, one behind the other.
func size(t api.Table, r walk.Row) int {
	n := 0
	walk.Through(t, r, func(s walk.Spot) bool {
		switch s.Type.Kind {
		case api.TypeArray, api.TypeStruct, api.TypeUnion:
			return true
		case api.TypeText:
			n += len(s.Arg.Bytes) + 1
		case api.TypeData:
			n += len(s.Arg.Bytes)
		default:
			n += s.Type.Size
		}
		return false
	})
	return n
}

// length is the value that a length must have where it stands.
func length(t api.Table, s walk.Spot) int {
	of, ok := s.Measured(t)
	if !ok {
		return 0
	}
	return size(t, walk.One(of.Place, *of.Arg))
}
