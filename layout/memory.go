package layout

import (
	"dredger/api"
	"dredger/mem"
	"dredger/prog"
	"dredger/walk"
)

const grain = 8 // what divides the addresses that pointers have

// placed is the same program, each of whose pointers has its address as its value, and the end of all that is laid.
func placed(t api.Table, p api.Program) (api.Program, int) {
	q := prog.Copy(p)
	end := api.Base
	for _, s := range q {
		walk.Through(t, walk.Of(t, s), func(s walk.Spot) bool {
			if leads(s) {
				b, _ := image(t, s)
				s.Arg.Value = (end + grain - 1) / grain * grain
				end = s.Arg.Value + len(b)
			}
			return true
		})
	}
	return q, end
}

// leads: is it a pointer to something?
func leads(s walk.Spot) bool { return s.Arg.Kind == api.ArgPtr && len(s.Arg.Kids) > 0 }

// image is the bytes of what a pointer leads to, and the references in it, at their places from the first byte on. A pointer in it is as its value; what that one leads to lies elsewhere.
func image(t api.Table, pointer walk.Spot) (b []byte, refs []api.Copy) {
	walk.Through(t, pointer.Kids(), func(s walk.Spot) bool {
		switch s.Type.Kind {
		case api.TypeArray, api.TypeStruct, api.TypeUnion:
			return true
		case api.TypeText:
			b = append(b, s.Arg.Bytes...)
			b = append(b, 0)
		case api.TypeData:
			b = append(b, s.Arg.Bytes...)
		default:
			value := s.Arg.Value
			if s.Arg.Kind == api.ArgRef {
				refs = append(refs, api.Copy{Addr: len(b), Ref: value, Size: s.Type.Size, Value: s.Type.Values[0]})
				value = 0
			}
			b = append(b, mem.Little(value, s.Type.Size)...)
		}
		return false
	})
	return b, refs
}

// executed is a step, whose pointers have their addresses, as it is executed.
func executed(t api.Table, s api.Step) api.Exec {
	x := api.Exec{Number: t.Calls[s.Call].Number}
	row := walk.Of(t, s)
	walk.Through(t, row, func(s walk.Spot) bool {
		if leads(s) && s.Type.Dir != api.DirOut {
			x.Copies = append(x.Copies, copies(t, s)...)
		}
		return true
	})
	for k := range row.Args {
		x.Words = append(x.Words, word(row.At(t, k)))
	}
	return x
}

// copies is what is laid into the memory ahead of a call, so that a pointer leads to it.
func copies(t api.Table, pointer walk.Spot) []api.Copy {
	b, refs := image(t, pointer)
	if len(b) == 0 {
		return nil
	}
	l := []api.Copy{{Addr: pointer.Arg.Value, Ref: -1, Bytes: b}}
	for _, c := range refs {
		c.Addr += pointer.Arg.Value
		l = append(l, c)
	}
	return l
}

// word is an argument as a kernel is given it.
func word(s walk.Spot) api.Word {
	if s.Arg.Kind == api.ArgRef {
		return api.Word{Ref: s.Arg.Value, Value: s.Type.Values[0]}
	}
	return api.Word{Ref: -1, Value: s.Arg.Value}
}
