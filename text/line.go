package text

import (
	"errors"
	"slices"
	"strings"

	"dredger/api"
	"dredger/codec"
)

const noResult = -1

// saysSomething: is a line neither of blanks alone nor a remark?
func saysSomething(words string) bool {
	words = strings.TrimLeft(words, " ")
	return words != "" && words[0] != '#'
}

// line is the codec of the step at a place.
func line(t api.Table, place int) codec.Codec[*cursor, api.Step] {
	args := func(s *api.Step) *[]api.Arg { return &s.Args }
	return codec.Join(blanks[api.Step](""), head(t, place), codec.Part(args, listed("(", ")")), end[api.Step]())
}

// head is what stands ahead of a step's arguments: the result, if its call makes one, and the call's name. That these are right is asked ahead of all arguments.
func head(t api.Table, place int) codec.Codec[*cursor, api.Step] {
	called := codec.Join(name(), blanks[string](""))
	return codec.Codec[*cursor, api.Step]{
		Write: func(b []byte, s *api.Step) []byte {
			if r := madeBy(t.Calls[s.Call], place); r != noResult {
				b = result().Write(b, &r)
			}
			return called.Write(b, &t.Calls[s.Call].Name)
		},
		Read: func(c *cursor, s *api.Step) error {
			named := resultAt(c)
			word := ""
			if err := called.Read(c, &word); err != nil {
				return err
			}
			s.Call = slices.IndexFunc(t.Calls, func(c api.Call) bool { return c.Name == word })
			if s.Call < 0 || named != madeBy(t.Calls[s.Call], place) {
				return errForm
			}
			return nil
		},
	}
}

// madeBy is the result that a step at a place makes.
func madeBy(c api.Call, place int) int {
	if c.Ret == "" {
		return noResult
	}
	return place
}

// result is a result where it is made.
func result() codec.Codec[*cursor, int] {
	return codec.Join(exact[int]("r"), decimal(0, lastPlace), blanks[int](" "), exact[int]("="), blanks[int](" "))
}

// resultAt passes the result that a line names. As a call's name may begin like one, the line is read from there on anew, if it names none.
func resultAt(c *cursor) int {
	ahead, r := *c, noResult
	if result().Read(&ahead, &r) != nil {
		return noResult
	}
	*c = ahead
	return r
}

// number is the one of what a line gave up with.
func number(err error) api.Errno {
	if errors.Is(err, api.ErrDeep) {
		return api.ErrDeep
	}
	return api.ErrText
}

// moved is a fault of a program, at the line of its step instead of the step.
func moved(err error, starts []int) error {
	var f api.Fault
	errors.As(err, &f)
	at := 0
	if f.At < len(starts) {
		at = starts[f.At]
	}
	return api.Fault{At: at, Why: f.Why}
}
