package binary

import (
	"dredger/api"
	"dredger/below"
	"dredger/codec"
	"dredger/wire"
)

// number is a number of wire, which is more than what it stands for.
func number(more int) codec.Codec[*wire.Reader, int] {
	return codec.Codec[*wire.Reader, int]{
		// It is appended, as wire.Put of all bytes would copy them for each number.
		Write: func(b []byte, n *int) []byte { return append(b, wire.Put(nil, *n+more)...) },
		Read: func(r *wire.Reader, n *int) error {
			read, e := r.Uint()
			*n = read - more
			return below.Wrap("wire.Uint", e)
		},
	}
}

// whole is a number that may lie below 0.
func whole() codec.Codec[*wire.Reader, int] {
	return codec.Codec[*wire.Reader, int]{
		Write: func(b []byte, n *int) []byte { return append(b, wire.Signed(nil, *n)...) },
		Read: func(r *wire.Reader, n *int) error {
			read, e := r.Signed()
			*n = read
			return below.Wrap("wire.Signed", e)
		},
	}
}

// text is at most so many bytes as a text.
func text(most int) codec.Codec[*wire.Reader, []byte] {
	return codec.Codec[*wire.Reader, []byte]{
		Write: func(b []byte, x *[]byte) []byte { return append(b, wire.Text(nil, string(*x))...) },
		Read: func(r *wire.Reader, x *[]byte) error {
			s, e := r.Text(most)
			*x = []byte(s)
			return below.Wrap("wire.Text", e)
		},
	}
}

// list is how many there are, at most so many, and these. A greater count is refused ahead of making room for it.
func list[T any](most int, item codec.Codec[*wire.Reader, T]) codec.Codec[*wire.Reader, []T] {
	count := number(0)
	return codec.Codec[*wire.Reader, []T]{
		Write: func(b []byte, l *[]T) []byte {
			n := len(*l)
			b = count.Write(b, &n)
			for i := range *l {
				b = item.Write(b, &(*l)[i])
			}
			return b
		},
		Read: func(r *wire.Reader, l *[]T) error {
			n := 0
			if err := count.Read(r, &n); err != nil {
				return err
			}
			if n > most {
				return api.ErrFull
			}
			*l = make([]T, n)
			for i := range *l {
				if err := item.Read(r, &(*l)[i]); err != nil {
					return err
				}
			}
			return nil
		},
	}
}

// end is where nothing may be left to read.
func end[T any]() codec.Codec[*wire.Reader, T] {
	return codec.Unwritten(func(r *wire.Reader, _ *T) error { return below.Wrap("wire.End", r.End()) })
}
