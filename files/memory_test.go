package files_test

import (
	"math"
	"slices"
	"testing"

	"dredger/api"
	"dredger/files"
)

func TestObjects(t *testing.T) {
	for what, x := range map[string]*files.Table{"nil": nil, "a plain one": {}} {
		refused := func(call string, e api.Err) {
			t.Helper()
			if e != api.EINVAL {
				t.Errorf("%s: %s: %v", what, call, e)
			}
		}
		for _, path := range []string{"", "/", "/a", "/no/a", "/toolong"} {
			for _, flags := range []int{0, api.FlagRead, api.FlagWrite | api.FlagMake, 64} {
				n, e := x.Open(path, flags)
				refused("Open", e+api.Err(n))
			}
			for call := -1; call <= api.NumCalls; call++ {
				refused("Name", x.Name(call, path, "/b"))
			}
			info, e := x.Stat(path)
			refused("Stat", e+api.Err(info.Kind+info.Links+info.Size))
			refused("Truncate", x.Truncate(path, 0))
		}
		r, w, e := x.Pipe()
		refused("Pipe", e+api.Err(r+w))
		for _, n := range []int{math.MinInt, -1, 0, 1, api.MaxFiles, api.MaxFiles + 1, math.MaxInt} {
			refused("Read", refusedRead(t, x, n, 1))
			refused("Write", refusedWrite(t, x, n, "x"))
			refused("Seek", refusedSeek(t, x, n, 0, 0))
			refused("Hold", x.Hold(n))
			refused("Drop", x.Drop(n))
		}
		if len(x.Look()) != 0 || len(x.Nodes()) != 0 || len(x.Blocks()) != 0 || len(x.Pipes()) != 0 {
			t.Errorf("%s: Look, Nodes, Blocks or Pipes", what)
		}
	}
}

// scrawl writes over a list and the room behind it.
func scrawl[T any](list []T, x T) {
	list = list[:cap(list)]
	for i := range list {
		list[i] = x
	}
}

func TestArgumentsAreNotKept(t *testing.T) {
	x := mixed(t)
	for _, n := range []int{2, 7} {
		all := []byte("in, and room behind")
		if k, _, e := x.Write(n, all[:2]); k != 2 || e != 0 {
			t.Fatal(k, e)
		}
		writes(t, x, n, "!")
		if string(all) != "in, and room behind" {
			t.Error("what was handed in was changed")
		}
		scrawl(all, 0xee)
	}
	reads(t, x, 1, 9, "in!")
	reads(t, x, 6, 9, "in!")
}

func TestAnswersAreNew(t *testing.T) {
	x := mixed(t)
	writes(t, x, 2, "abcdefgh")
	before := stateOf(t, x)
	for count := 1; count <= 8; count++ {
		one, _, _ := x.Read(1, count)
		seeks(t, x, 1, 0, 0, 0)
		two, _, _ := x.Read(1, count)
		seeks(t, x, 1, 0, 0, 0)
		scrawl(one, 0xee)
		if string(two) != "abcdefgh"[:count] || !same(stateOf(t, x), before) {
			t.Errorf("Read of %d bytes is shared", count)
		}
	}
	for count := 1; count < api.Pipe; count++ {
		writes(t, x, 7, "12345678")
		one, _, _ := x.Read(6, count)
		scrawl(one, 0xee)
		reads(t, x, 6, api.Pipe, "12345678"[count:])
	}
}

func TestLooksAreNew(t *testing.T) {
	x := mixed(t)
	writes(t, x, 2, "abcdefgh")
	before := stateOf(t, x)
	for range 2 {
		scrawl(x.Look(), api.OpenInfo{})
		scrawl(x.Blocks(), -7)
		scrawl(x.Pipes(), api.PipeInfo{})
		nodes := x.Nodes()
		for _, n := range nodes {
			scrawl(n.Blocks, -7)
			scrawl(n.Names, "scrawl")
			scrawl(n.Nodes, -7)
		}
		scrawl(nodes, api.Node{})
		if !same(stateOf(t, x), before) {
			t.Error("what a table tells of itself is shared")
		}
	}
	one, two := x.Look(), x.Look()
	scrawl(one, api.OpenInfo{})
	if !slices.Equal(two, before.open) {
		t.Error("two answers of Look share memory")
	}
}

// TestTablesAreApart: what one does another one can't tell.
func TestTablesAreApart(t *testing.T) {
	one, two := mixed(t), files.New(0)
	writes(t, one, 2, "abc")
	if !same(stateOf(t, two), stateOf(t, files.New(0))) {
		t.Error("two tables share something")
	}
}
