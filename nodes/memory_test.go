package nodes_test

import (
	"math"
	"slices"
	"testing"

	"dredger/api"
	"dredger/nodes"
)

func TestObjects(t *testing.T) {
	for what, s := range map[string]*nodes.System{"nil": nil, "a plain one": {}} {
		for _, path := range []string{"", "/", "/a", "/a/b", "a", "/toolong"} {
			refused := func(call string, e api.Err) {
				t.Helper()
				if e != api.EINVAL {
					t.Errorf("%s: %s of %q: %v", what, call, path, e)
				}
			}
			n, e := s.Find(path)
			refused("Find", e+api.Err(n))
			for _, kind := range []int{api.NodeFile, api.NodeDir, 0} {
				n, e = s.Make(path, kind)
				refused("Make", e+api.Err(n))
			}
			refused("Unlink", s.Unlink(path))
			refused("Rmdir", s.Rmdir(path))
			refused("Link", s.Link(path, "/b"))
			refused("Rename", s.Rename(path, "/b"))
			refused("Rename onto itself", s.Rename(path, path))
		}
		for _, n := range []int{math.MinInt, -1, 0, 1, 2, api.MaxNodes, api.MaxNodes + 1, math.MaxInt} {
			refused := func(call string, e api.Err) {
				t.Helper()
				if e != api.EINVAL {
					t.Errorf("%s: %s of node %d: %v", what, call, n, e)
				}
			}
			info, e := s.Stat(n)
			refused("Stat", e+api.Err(info.Kind+info.Links+info.Size))
			b, e := s.Read(n, 0, 1)
			refused("Read", e+api.Err(len(b)))
			k, e := s.Write(n, 0, []byte("x"))
			refused("Write", e+api.Err(k))
			_, e = s.Write(n, 0, nil)
			refused("Write of nothing", e)
			refused("Resize", s.Resize(n, 0))
			refused("Hold", s.Hold(n))
			refused("Drop", s.Drop(n))
		}
		if len(s.Look()) != 0 || len(s.Blocks()) != 0 {
			t.Errorf("%s: Look, or Blocks", what)
		}
	}
}

// scrawl writes over a list and the room behind it.
func scrawl[T any](list []T, x T) {
	list = list[:cap(list)]
	for i := range list {
		list[i] = x
	}
}

func TestArgumentsAreNotKept(t *testing.T) {
	s := with(t, "f /a")
	all := []byte("handed in, and room behind")
	b := all[:9]
	write(t, s, 2, 0, b)
	if string(all) != "handed in, and room behind" {
		t.Error("what was handed in was changed")
	}
	scrawl(b, 0xee)
	reads(t, "behind a change of what was written", s, 2, "handed in")
	if s.Resize(2, 12) != 0 {
		t.Fatal("Resize")
	}
	reads(t, "lengthened", s, 2, "handed in\x00\x00\x00")
}

func TestAnswersAreNew(t *testing.T) {
	s := busy(t)
	write(t, s, 2, 0, filled('a', 50))
	write(t, s, 4, 0, filled('b', 20))
	write(t, s, 11, 0, filled('c', api.MaxFile))
	before := stateOf(t, s)
	for count := range 60 {
		x, _ := s.Read(2, 3, count)
		y, _ := s.Read(2, 3, count)
		scrawl(x, 0xee)
		if string(y) != string(filled('a', min(count, 47))) || !same(stateOf(t, s), before) {
			t.Fatalf("Read of %d bytes is shared", count)
		}
	}
	x, y := s.Blocks(), s.Blocks()
	scrawl(x, -7)
	if !slices.Equal(y, before.blocks) || !same(stateOf(t, s), before) {
		t.Error("Blocks is shared")
	}
	one, two := s.Look(), s.Look()
	for i := range one {
		scrawl(one[i].Blocks, -7)
		scrawl(one[i].Names, "scrawl")
		if slices.Contains(one[i].Nodes, -7) {
			t.Error("two lists of a node share memory")
		}
		for _, other := range one[i+1:] {
			if slices.Contains(other.Blocks, -7) || slices.Contains(other.Names, "scrawl") || slices.Contains(other.Nodes, -7) {
				t.Error("lists of two nodes share memory")
			}
		}
		scrawl(one[i].Nodes, -7)
	}
	scrawl(one, api.Node{})
	for i := range two {
		two[i] = plain(two[i])
	}
	if !same(state{nodes: two, blocks: before.blocks, bytes: before.bytes}, before) || !same(stateOf(t, s), before) {
		t.Error("Look is shared")
	}
}

// TestSystemsAreApart: what one does another one can't tell.
func TestSystemsAreApart(t *testing.T) {
	one, two := nodes.New(0), nodes.New(0)
	do(t, one, "f /a", "d /d", "f /d/x", "h /a")
	write(t, one, 2, 0, []byte("x"))
	if !same(stateOf(t, two), stateOf(t, nodes.New(0))) {
		t.Error("two systems share something")
	}
}
