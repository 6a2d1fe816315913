package text

import (
	"dredger/api"
	"dredger/codec"
)

const (
	lowest    = -1 << 62 // the bounds of a number
	highest   = 1 << 62
	lastPlace = 999 // of steps, and of parts
	deepest   = 400 // so many arguments may an argument not stand within
)

// argument is the codec of an argument: its first byte, all of it, its end.
func argument() codec.Codec[*cursor, api.Arg] {
	return codec.Join(codec.Unwritten(meet), codec.Chosen(form), codec.Unwritten(leave))
}

// meet tells from an argument's first byte its kind, and whether it has just one kid. That it stands too deep is told ahead of all that follows.
func meet(c *cursor, a *api.Arg) error {
	switch b := c.next(); {
	case isDigit(b) || b == '-':
		a.Kind = api.ArgValue
	case b == 'r':
		a.Kind = api.ArgRef
	case b == 'n':
		a.Kind = api.ArgPtr
	case b == '&':
		a.Kind, a.Kids = api.ArgPtr, make([]api.Arg, 1)
	case b == '{':
		a.Kind = api.ArgGroup
	case b == '@':
		a.Kind, a.Kids = api.ArgUnion, make([]api.Arg, 1)
	case b == '"':
		a.Kind = api.ArgData
	default:
		return errForm
	}
	if c.deep == deepest {
		return api.ErrDeep
	}
	c.deep++
	return nil
}

// leave is where an argument ends.
func leave(c *cursor, _ *api.Arg) error {
	c.deep--
	return nil
}

// form is the codec of arguments that are of an argument's kind.
func form(a *api.Arg) codec.Codec[*cursor, api.Arg] {
	switch a.Kind {
	case api.ArgRef:
		return codec.Part(valueOf, codec.Join(exact[int]("r"), decimal(0, lastPlace), blanks[int]("")))
	case api.ArgPtr:
		if len(a.Kids) == 0 {
			return mark[api.Arg]("nil")
		}
		return codec.Join(mark[api.Arg]("&"), kid())
	case api.ArgGroup:
		return codec.Part(kidsOf, listed("{", "}"))
	case api.ArgUnion:
		return codec.Join(codec.Part(valueOf, part()), kid())
	case api.ArgData:
		return codec.Part(bytesOf, codec.Join(exact[[]byte](`"`), hex(), mark[[]byte](`"`)))
	}
	return codec.Part(valueOf, codec.Join(decimal(lowest, highest), blanks[int]("")))
}

func valueOf(a *api.Arg) *int { return &a.Value }

func kidsOf(a *api.Arg) *[]api.Arg { return &a.Kids }

func bytesOf(a *api.Arg) *[]byte { return &a.Bytes }

// kid is an argument's only one.
func kid() codec.Codec[*cursor, api.Arg] {
	return codec.Part(func(a *api.Arg) *api.Arg { return &a.Kids[0] }, argument())
}

// part is which part of a union it is. A number that follows it at once, with no blank between, would be another form of the same.
func part() codec.Codec[*cursor, int] {
	apart := codec.Unwritten(func(c *cursor, _ *int) error {
		if c.next() == '-' {
			return errForm
		}
		return nil
	})
	return codec.Join(exact[int]("@"), decimal(0, lastPlace), apart, blanks[int](" "))
}

// listed is any number of arguments between two marks.
func listed(open, shut string) codec.Codec[*cursor, []api.Arg] {
	item := argument()
	comma := codec.Join(exact[[]api.Arg](","), blanks[[]api.Arg](" "))
	items := codec.Codec[*cursor, []api.Arg]{
		Write: func(b []byte, l *[]api.Arg) []byte {
			for i := range *l {
				if i > 0 {
					b = comma.Write(b, l)
				}
				b = item.Write(b, &(*l)[i])
			}
			return b
		},
		Read: func(c *cursor, l *[]api.Arg) error {
			if c.next() == shut[0] {
				return nil
			}
			for wanted := true; wanted; wanted = comma.Read(c, l) == nil {
				var a api.Arg
				if err := item.Read(c, &a); err != nil {
					return err
				}
				*l = append(*l, a)
			}
			return nil
		},
	}
	return codec.Join(mark[[]api.Arg](open), items, mark[[]api.Arg](shut))
}
