package nodes_test

import (
	"testing"

	"dredger/api"
	"dredger/nodes"
)

// held is how often a node is held.
func held(s *nodes.System, n int) int {
	for _, x := range s.Look() {
		if x.Number == n {
			return x.Held
		}
	}
	return 0
}

func TestHoldAndDrop(t *testing.T) {
	s := with(t, "f /a", "d /d")
	for _, n := range []int{1, 2, 3} {
		refuses(t, s, "Drop of what is not held", api.EINVAL, func() api.Err { return s.Drop(n) })
		for i := range 1000 {
			if e := s.Hold(n); e != 0 || held(s, n) != i+1 {
				t.Fatalf("hold %d of node %d: %v, it is held %d times", i+1, n, e, held(s, n))
			}
		}
		refuses(t, s, "Hold for the 1001st time", api.EAGAIN, func() api.Err { return s.Hold(n) })
		if s.Drop(n) != 0 || s.Hold(n) != 0 || s.Hold(n) != api.EAGAIN {
			t.Errorf("Drop and Hold of node %d", n)
		}
		for i := range 1000 {
			if e := s.Drop(n); e != 0 || held(s, n) != 999-i {
				t.Fatalf("drop %d of node %d: %v, it is held %d times", i+1, n, e, held(s, n))
			}
		}
		refuses(t, s, "Drop of what is not held any more", api.EINVAL, func() api.Err { return s.Drop(n) })
	}
	has(t, "held and dropped", s, "a:2 d:3()")
}

// TestAFileWithoutAName: it is there as long as it is held, and does what others do.
func TestAFileWithoutAName(t *testing.T) {
	s := with(t, "f /a", "h /a", "h /a")
	write(t, s, 2, 0, []byte("abc"))
	do(t, s, "u /a", "f /b")
	has(t, "without a name", s, "b:3")
	stats(t, "without a name", s, 2, api.NodeFile, 0, 3)
	write(t, s, 2, 17, []byte("d"))
	if b, e := s.Read(2, 0, 3); string(b) != "abc" || e != 0 || s.Resize(2, 33) != 0 {
		t.Error("without a name:", b, e)
	}
	blocks(t, "without a name", s, 1, 2, 3)
	if s.Hold(2) != 0 || s.Drop(2) != 0 || s.Drop(2) != 0 {
		t.Error("Drop")
	}
	stats(t, "held once", s, 2, api.NodeFile, 0, 33)
	if s.Drop(2) != 0 {
		t.Error("the last Drop")
	}
	stats(t, "gone", s, 2, 0, -1, 0)
	blocks(t, "gone", s)
	refuses(t, s, "Drop of a file that went", api.ENOENT, func() api.Err { return s.Drop(2) })
	do(t, s, "d /c")
	has(t, "its number is free", s, "b:3 c:2()")
}

// TestAFileWithANameIsThere, held or not.
func TestAFileWithANameIsThere(t *testing.T) {
	s := with(t, "f /a", "l /a /b", "h /a", "u /a")
	if s.Drop(2) != 0 {
		t.Fatal("Drop")
	}
	stats(t, "dropped, with a name", s, 2, api.NodeFile, 1, 0)
	do(t, s, "u /b")
	stats(t, "without one", s, 2, 0, -1, 0)
}

func TestLook(t *testing.T) {
	s := with(t, "f /z", "d /d", "f /d/B", "d /d/a", "l /z /d/\xff", "l /z /d/A", "h /d", "h /z", "h /z", "f /x", "h /x", "u /x")
	write(t, s, 2, 3, []byte("x"))
	write(t, s, 4, 0, filled('b', 17))
	want := state{
		nodes: []api.Node{
			{Number: 1, Kind: api.NodeDir, Links: 1, Size: 2, Names: []string{"d", "z"}, Nodes: []int{3, 2}},
			{Number: 2, Kind: api.NodeFile, Links: 3, Size: 4, Held: 2, Blocks: []int{1}},
			{Number: 3, Kind: api.NodeDir, Links: 1, Size: 4, Held: 1, Names: []string{"A", "B", "a", "\xff"}, Nodes: []int{2, 4, 5, 2}},
			{Number: 4, Kind: api.NodeFile, Links: 1, Size: 17, Blocks: []int{2, 3}},
			{Number: 5, Kind: api.NodeDir, Links: 1},
			{Number: 6, Kind: api.NodeFile, Links: 0, Held: 1},
		},
		blocks: []int{1, 2, 3},
		bytes:  map[int]string{2: "\x00\x00\x00x", 4: string(filled('b', 17)), 6: ""},
	}
	if is := stateOf(t, s); !same(is, want) {
		t.Errorf("%v, want %v", is, want)
	}
}
