package pipes_test

import (
	"math"
	"slices"
	"testing"

	"dredger/api"
	"dredger/pipes"
)

func TestObjects(t *testing.T) {
	for what, x := range map[string]*pipes.Table{"nil": nil, "a plain one": {}} {
		refused := func(call string, e api.Err) {
			t.Helper()
			if e != api.EINVAL {
				t.Errorf("%s: %s: %v", what, call, e)
			}
		}
		n, e := x.Make()
		refused("Make", e+api.Err(n))
		for _, n := range []int{math.MinInt, -1, 0, 1, api.MaxPipes, api.MaxPipes + 1, math.MaxInt} {
			for _, count := range []int{-1, 0, 1} {
				b, waits, e := x.Read(n, count)
				refused("Read", e+api.Err(len(b)))
				if waits {
					t.Errorf("%s: Read waits", what)
				}
			}
			for _, b := range [][]byte{nil, []byte("x")} {
				k, waits, e := x.Write(n, b)
				refused("Write", e+api.Err(k))
				if waits {
					t.Errorf("%s: Write waits", what)
				}
			}
			for _, writer := range []bool{false, true} {
				refused("Hold", x.Hold(n, writer))
				refused("Drop", x.Drop(n, writer))
			}
		}
		if len(x.Look()) != 0 {
			t.Errorf("%s: Look", what)
		}
	}
}

// scrawl writes over a list and the room behind it.
func scrawl[T any](list []T, x T) {
	list = list[:cap(list)]
	for i := range list {
		list[i] = x
	}
}

func TestArgumentsAreNotKept(t *testing.T) {
	x := with(t, 1)
	all := []byte("in, and room behind")
	if k, _, e := x.Write(1, all[:2]); k != 2 || e != 0 {
		t.Fatal(k, e)
	}
	writes(t, "behind it", x, 1, "!", 1, false, 0)
	if string(all) != "in, and room behind" {
		t.Error("what was handed in was changed")
	}
	scrawl(all, 0xee)
	reads(t, "behind a change of what was written", x, 1, 8, "in!", false, 0)
}

func TestAnswersAreNew(t *testing.T) {
	x := with(t, 2)
	for count := 1; count <= api.Pipe; count++ {
		writes(t, "full", x, 1, "12345678"[:count], count, false, 0)
		first, _, _ := x.Read(1, count)
		scrawl(first, 0xee)
		writes(t, "full", x, 1, "abcdefgh", 8, false, 0)
		second, _, _ := x.Read(1, count)
		scrawl(first, 0xee)
		if string(second) != "abcdefgh"[:count] {
			t.Error("two reads share memory")
		}
		scrawl(second, 0xee)
		reads(t, "behind a change of what was read", x, 1, 8, "abcdefgh"[count:], count == api.Pipe, 0)
	}
	one, two := x.Look(), x.Look()
	scrawl(one, api.PipeInfo{})
	want := []api.PipeInfo{pipe(1, 1, 1, 0), pipe(2, 1, 1, 0)}
	if !slices.Equal(two, want) || !slices.Equal(x.Look(), want) {
		t.Error("Look is shared")
	}
}

// TestTablesAreApart: what one does another one can't tell.
func TestTablesAreApart(t *testing.T) {
	one, two := pipes.New(0), pipes.New(0)
	if n, e := one.Make(); n != 1 || e != 0 {
		t.Fatal(n, e)
	}
	has(t, "another table", two)
}
