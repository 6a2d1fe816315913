// Package codec is pairs of functions, of which one writes a thing as bytes and the other reads it back, and the ways in which such pairs are put together. It is no layer: text and binary say by it once what writing and reading both go by.
package codec

// Codec writes a T behind bytes, and reads one from an R. What it reads into has its zero value, but for what codecs ahead of it have read.
type Codec[R, T any] struct {
	Write func(b []byte, x *T) []byte
	Read  func(from R, x *T) error
}

// Join is codecs one behind the other; the first one that can't read ends the reading.
func Join[R, T any](parts ...Codec[R, T]) Codec[R, T] {
	return Codec[R, T]{
		Write: func(b []byte, x *T) []byte {
			for _, c := range parts {
				b = c.Write(b, x)
			}
			return b
		},
		Read: func(from R, x *T) error {
			for _, c := range parts {
				if err := c.Read(from, x); err != nil {
					return err
				}
			}
			return nil
		},
	}
}

// Part is a codec of one part of a T.
func Part[R, T, P any](part func(x *T) *P, of Codec[R, P]) Codec[R, T] {
	return Codec[R, T]{
		Write: func(b []byte, x *T) []byte { return of.Write(b, part(x)) },
		Read:  func(from R, x *T) error { return of.Read(from, part(x)) },
	}
}

// Chosen is the codec that a function chooses by what is written, or by what was read so far. As it is asked only then, things may be made of things of their own kind.
func Chosen[R, T any](choose func(x *T) Codec[R, T]) Codec[R, T] {
	return Codec[R, T]{
		Write: func(b []byte, x *T) []byte { return choose(x).Write(b, x) },
		Read:  func(from R, x *T) error { return choose(x).Read(from, x) },
	}
}

// Unwritten is a codec that writes nothing: it looks at what is read alone.
func Unwritten[R, T any](read func(from R, x *T) error) Codec[R, T] {
	return Codec[R, T]{
		Write: func(b []byte, _ *T) []byte { return b },
		Read:  read,
	}
}
