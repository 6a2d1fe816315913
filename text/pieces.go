package text

import (
	"errors"
	"strconv"
	"strings"

	"dredger/codec"
)

// errForm is what a line that is not as it must be gives up with, where nothing below tells an error.
var errForm = errors.New("text: a line that is not as said")

const hexDigits = "0123456789abcdef"

// exact is some bytes that must stand there.
func exact[T any](s string) codec.Codec[*cursor, T] {
	return codec.Codec[*cursor, T]{
		Write: func(b []byte, _ *T) []byte { return append(b, s...) },
		Read: func(c *cursor, _ *T) error {
			if !c.pass(s) {
				return errForm
			}
			return nil
		},
	}
}

// blanks is any number of blanks, however many of them are written.
func blanks[T any](written string) codec.Codec[*cursor, T] {
	return codec.Codec[*cursor, T]{
		Write: func(b []byte, _ *T) []byte { return append(b, written...) },
		Read: func(c *cursor, _ *T) error {
			c.run(isBlank)
			return nil
		},
	}
}

// mark is some bytes, and blanks behind.
func mark[T any](s string) codec.Codec[*cursor, T] {
	return codec.Join(exact[T](s), blanks[T](""))
}

// end is a line's end.
func end[T any]() codec.Codec[*cursor, T] {
	return codec.Codec[*cursor, T]{
		Write: func(b []byte, _ *T) []byte { return append(b, '\n') },
		Read: func(c *cursor, _ *T) error {
			if !c.over() {
				return errForm
			}
			return nil
		},
	}
}

// decimal is a number in decimal digits, within bounds as it is read.
func decimal(least, most int) codec.Codec[*cursor, int] {
	return codec.Codec[*cursor, int]{
		Write: func(b []byte, n *int) []byte { return strconv.AppendInt(b, int64(*n), 10) },
		Read: func(c *cursor, n *int) error {
			from := c.at
			c.pass("-")
			c.run(isDigit)
			word := c.line[from:c.at]
			read, err := strconv.Atoi(word)
			if err != nil {
				return err
			}
			// A number has one form: noughts ahead, and a - ahead of 0, are not written again.
			if strconv.Itoa(read) != word || read < least || read > most {
				return errForm
			}
			*n = read
			return nil
		},
	}
}

// name is a call's name.
func name() codec.Codec[*cursor, string] {
	return codec.Codec[*cursor, string]{
		Write: func(b []byte, s *string) []byte { return append(b, *s...) },
		Read: func(c *cursor, s *string) error {
			if !isLetter(c.next()) {
				return errForm
			}
			*s = c.run(inName)
			return nil
		},
	}
}

// hex is bytes, two digits for each.
func hex() codec.Codec[*cursor, []byte] {
	return codec.Codec[*cursor, []byte]{
		Write: func(b []byte, x *[]byte) []byte {
			for _, v := range *x {
				b = append(b, hexDigits[v>>4], hexDigits[v&15])
			}
			return b
		},
		Read: func(c *cursor, x *[]byte) error {
			s := c.run(inQuotes)
			if len(s)%2 != 0 {
				return errForm
			}
			for ; s != ""; s = s[2:] {
				high, low := strings.IndexByte(hexDigits, s[0]), strings.IndexByte(hexDigits, s[1])
				if high < 0 || low < 0 {
					return errForm
				}
				*x = append(*x, byte(high<<4|low))
			}
			return nil
		},
	}
}
