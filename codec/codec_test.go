package codec_test

import (
	"errors"
	"slices"
	"testing"

	"dredger/codec"
)

// source is bytes that are read one by one.
type source struct{ left []byte }

var errEnd = errors.New("no byte is left")

// one is a number of one byte.
func one() codec.Codec[*source, int] {
	return codec.Codec[*source, int]{
		Write: func(b []byte, n *int) []byte { return append(b, byte(*n)) },
		Read: func(s *source, n *int) error {
			if len(s.left) == 0 {
				return errEnd
			}
			*n, s.left = int(s.left[0]), s.left[1:]
			return nil
		},
	}
}

// chain is a number, and, if it is not 0, another one behind.
type chain struct {
	n    int
	next *chain
}

func chained() codec.Codec[*source, chain] {
	return codec.Join(
		codec.Part(func(c *chain) *int { return &c.n }, one()),
		codec.Chosen(func(c *chain) codec.Codec[*source, chain] {
			if c.n == 0 {
				return codec.Join[*source, chain]()
			}
			if c.next == nil {
				c.next = &chain{}
			}
			return codec.Part(func(c *chain) *chain { return c.next }, chained())
		}),
	)
}

func TestThereAndBack(t *testing.T) {
	x := chain{3, &chain{2, &chain{}}}
	b := chained().Write([]byte{9}, &x)
	if !slices.Equal(b, []byte{9, 3, 2, 0}) {
		t.Fatal(b)
	}
	from := &source{append(b[1:], 7)}
	var y chain
	if err := chained().Read(from, &y); err != nil || y.n != 3 || y.next.n != 2 || y.next.next.n != 0 || y.next.next.next != nil {
		t.Fatal(y, err)
	}
	if !slices.Equal(from.left, []byte{7}) {
		t.Error(from.left)
	}
}

func TestFirstErrorEnds(t *testing.T) {
	asked := 0
	counted := codec.Unwritten(func(*source, *int) error {
		asked++
		return nil
	})
	both := codec.Join(counted, one(), counted)
	n := 5
	if b := both.Write(nil, &n); !slices.Equal(b, []byte{5}) || asked != 0 {
		t.Error(b, asked)
	}
	if err := both.Read(&source{}, &n); !errors.Is(err, errEnd) || asked != 1 {
		t.Error(err, asked)
	}
	if err := both.Read(&source{[]byte{8}}, &n); err != nil || asked != 3 || n != 8 {
		t.Error(err, asked, n)
	}
	if err := chained().Read(&source{[]byte{1, 2}}, &chain{}); !errors.Is(err, errEnd) {
		t.Error(err)
	}
}
