package nodes_test

import (
	"testing"

	"dredger/api"
	"dredger/nodes"
)

// after is a system with defects, behind calls.
func after(t *testing.T, defects int, calls ...string) *nodes.System {
	t.Helper()
	s := nodes.New(defects)
	do(t, s, calls...)
	return s
}

// choices calls look with each choice of the three defects, and with other bits beside them, and tells whether one of them is in it.
func choices(defect int, look func(defects int, is bool)) {
	for _, others := range []int{0, 8 | 16 | 32, ^7} {
		for defects := range 8 {
			look(defects|others, defects&defect != 0)
		}
	}
}

// TestDefectLinks: Unlink of a file with more than one link leaves the link.
func TestDefectLinks(t *testing.T) {
	choices(api.DefectLinks, func(defects int, is bool) {
		s := after(t, defects, "f /a", "l /a /b", "l /a /c", "u /a")
		has(t, "the name goes", s, "b:2 c:2")
		behindOne, behindAll := 2, -1
		if is {
			behindOne, behindAll = 3, 3
		}
		stats(t, "one name less", s, 2, api.NodeFile, behindOne, 0)
		do(t, s, "u /b", "u /c")
		has(t, "no names", s, "")
		stats(t, "no names", s, 2, api.NodeFile, behindAll, 0)

		s = after(t, defects, "f /a", "u /a", "f /b", "h /b", "u /b")
		stats(t, "a file with one link", s, 2, api.NodeFile, 0, 0)
		s = after(t, defects, "f /a", "l /a /b", "f /x", "d /d", "r /d")
		stats(t, "a directory", s, 4, 0, -1, 0)
	})
}

// TestDefectBlocks: what is cut off, and what goes, keeps its blocks allocated.
func TestDefectBlocks(t *testing.T) {
	choices(api.DefectBlocks, func(defects int, is bool) {
		either := func(what string, s *nodes.System, with, without []int) {
			t.Helper()
			if is {
				blocks(t, what, s, with...)
			} else {
				blocks(t, what, s, without...)
			}
		}
		s := after(t, defects, "f /a")
		write(t, s, 2, 0, filled('x', 40))
		if s.Resize(2, 16) != 0 || len(blocksOf(s, 2)) != 1 {
			t.Error("the file has blocks that were cut off")
		}
		either("cut", s, []int{1, 2, 3}, []int{1})
		if s.Resize(2, 32) != 0 {
			t.Fatal("Resize")
		}
		either("lengthened", s, []int{1, 2, 3, 4}, []int{1, 2})
		reads(t, "lengthened", s, 2, string(filled('x', 16))+string(filled(0, 16)))
		do(t, s, "u /a")
		stats(t, "gone", s, 2, 0, -1, 0)
		either("gone", s, []int{1, 2, 3, 4}, nil)

		s = after(t, defects, "f /a", "h /a")
		write(t, s, 2, 0, []byte("x"))
		do(t, s, "u /a")
		blocks(t, "held", s, 1)
		if s.Drop(2) != 0 {
			t.Fatal("Drop")
		}
		either("dropped", s, []int{1}, nil)

		s = after(t, defects&^api.DefectRename, "f /a", "f /b")
		write(t, s, 3, 0, []byte("x"))
		do(t, s, "m /a /b")
		either("replaced", s, []int{1}, nil)
	})
}

// TestDefectBlocksTillAllAreTaken: blocks that nobody has are not free.
func TestDefectBlocksTillAllAreTaken(t *testing.T) {
	s := after(t, api.DefectBlocks, "f /a")
	for range 4 {
		if s.Resize(2, api.MaxFile) != 0 || s.Resize(2, 0) != 0 {
			t.Fatal("Resize")
		}
	}
	refuses(t, s, "Resize", api.ENOSPC, func() api.Err { return s.Resize(2, 1) })
	refuses(t, s, "Write", api.ENOSPC, func() api.Err { _, e := s.Write(2, 0, []byte("x")); return e })
}

// TestDefectRename: what was replaced keeps its link.
func TestDefectRename(t *testing.T) {
	choices(api.DefectRename, func(defects int, is bool) {
		s := after(t, defects, "f /a", "f /b", "m /a /b")
		has(t, "replaced", s, "b:2")
		stats(t, "what replaced it", s, 2, api.NodeFile, 1, 0)
		if is {
			stats(t, "replaced", s, 3, api.NodeFile, 1, 0)
			if s.Hold(3) != 0 || s.Drop(3) != 0 {
				t.Error("Hold and Drop of what was replaced")
			}
			stats(t, "replaced, held and dropped", s, 3, api.NodeFile, 1, 0)
		} else {
			stats(t, "replaced", s, 3, 0, -1, 0)
		}

		s = after(t, defects, "f /a", "f /b", "l /b /c", "m /a /b")
		links := 1
		if is {
			links = 2
		}
		stats(t, "a file with another name", s, 3, api.NodeFile, links, 0)

		s = after(t, defects, "d /a", "d /b", "m /a /b")
		has(t, "a directory", s, "b:2()")
		if is {
			stats(t, "a directory", s, 3, api.NodeDir, 1, 0)
		} else {
			stats(t, "a directory", s, 3, 0, -1, 0)
		}

		s = after(t, defects, "f /a", "l /a /b", "m /a /b", "m /a /c")
		has(t, "nothing replaced", s, "b:2 c:2")
		stats(t, "nothing replaced", s, 2, api.NodeFile, 2, 0)
	})
}

// TestAllDefects: each does what it does alone.
func TestAllDefects(t *testing.T) {
	s := after(t, 7, "f /a", "l /a /b", "f /c", "f /d")
	write(t, s, 2, 0, filled('a', 17))
	write(t, s, 3, 0, filled('c', 17))
	write(t, s, 4, 0, filled('d', 17))
	do(t, s, "u /a", "m /d /c", "u /b")
	stats(t, "unlinked", s, 2, api.NodeFile, 2, 17)
	stats(t, "replaced", s, 3, api.NodeFile, 1, 17)
	do(t, s, "u /c")
	stats(t, "gone", s, 4, 0, -1, 0)
	blocks(t, "all of it", s, 1, 2, 3, 4, 5, 6)
	has(t, "all of it", s, "")
}
