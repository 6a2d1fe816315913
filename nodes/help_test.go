package nodes_test

import (
	"fmt"
	"slices"
	"strings"
	"testing"

	"dredger/api"
	"dredger/nodes"
)

// do makes calls that must go well: "f /a" makes a file, "d /a" a directory, "l /a /b" a link, "u /a" unlinks, "r /a" removes a directory, "m /a /b" renames, "h /a" holds.
func do(t *testing.T, s *nodes.System, calls ...string) {
	t.Helper()
	for _, c := range calls {
		w := append(strings.Fields(c), "")
		var e api.Err
		switch w[0] {
		case "f":
			_, e = s.Make(w[1], api.NodeFile)
		case "d":
			_, e = s.Make(w[1], api.NodeDir)
		case "l":
			e = s.Link(w[1], w[2])
		case "u":
			e = s.Unlink(w[1])
		case "r":
			e = s.Rmdir(w[1])
		case "m":
			e = s.Rename(w[1], w[2])
		case "h":
			var n int
			if n, e = s.Find(w[1]); e == 0 {
				e = s.Hold(n)
			}
		default:
			t.Fatal("no such call:", c)
		}
		if e != 0 {
			t.Fatalf("%s: %v", c, e)
		}
	}
}

// with is a new system without defects, behind these calls.
func with(t *testing.T, calls ...string) *nodes.System {
	t.Helper()
	s := nodes.New(0)
	do(t, s, calls...)
	return s
}

// tree is all names that can be walked to, each with its node: "d:2(x:3)" is a directory with a file.
func tree(s *nodes.System) string {
	look := map[int]api.Node{}
	for _, n := range s.Look() {
		look[n.Number] = n
	}
	var list func(dir api.Node) string
	list = func(dir api.Node) string {
		var names []string
		for i, name := range dir.Names {
			told := fmt.Sprintf("%s:%d", name, dir.Nodes[i])
			if of := look[dir.Nodes[i]]; of.Kind == api.NodeDir {
				told += "(" + list(of) + ")"
			}
			names = append(names, told)
		}
		return strings.Join(names, " ")
	}
	return list(look[1])
}

// has holds the names that a system has against a tree.
func has(t *testing.T, what string, s *nodes.System, want string) {
	t.Helper()
	if got := tree(s); got != want {
		t.Errorf("%s: %q, want %q", what, got, want)
	}
}

// stats holds what is told of a node against what it should be; links of -1: it is not there.
func stats(t *testing.T, what string, s *nodes.System, n, kind, links, size int) {
	t.Helper()
	want, err := api.Info{Kind: kind, Links: links, Size: size}, api.Err(0)
	if links < 0 {
		want, err = api.Info{}, api.ENOENT
	}
	if got, e := s.Stat(n); got != want || e != err {
		t.Errorf("%s: node %d is %v, %v, want %v, %v", what, n, got, e, want, err)
	}
}

// refuses makes a call that must tell an error, and must have changed nothing then.
func refuses(t *testing.T, s *nodes.System, what string, want api.Err, call func() api.Err) {
	t.Helper()
	before := stateOf(t, s)
	if e := call(); e != want {
		t.Errorf("%s: %v, want %v", what, e, want)
	}
	if !same(stateOf(t, s), before) {
		t.Errorf("%s was refused, and has changed something", what)
	}
}

// write writes what must go in.
func write(t *testing.T, s *nodes.System, n, off int, b []byte) {
	t.Helper()
	if k, e := s.Write(n, off, b); k != len(b) || e != 0 {
		t.Fatalf("Write(%d, %d, %d bytes): %d, %v", n, off, len(b), k, e)
	}
}

// blocks holds the allocated blocks against a list.
func blocks(t *testing.T, what string, s *nodes.System, want ...int) {
	t.Helper()
	if got := s.Blocks(); !slices.Equal(got, want) {
		t.Errorf("%s: the blocks %v are allocated, want %v", what, got, want)
	}
}

// blocksOf is a file's blocks.
func blocksOf(s *nodes.System, n int) []int {
	for _, x := range s.Look() {
		if x.Number == n {
			return x.Blocks
		}
	}
	return nil
}

// busy is a system in which nearly every error can be met: /f and /g are one file, /e is an empty directory, /h one that is held, /d one with names, /d/w one that is full.
func busy(t *testing.T) *nodes.System {
	t.Helper()
	s := with(t, "f /f", "l /f /g", "d /d", "f /d/f", "d /d/e", "d /d/h", "h /d/h", "d /e", "d /h", "h /h",
		"d /d/w", "d /d/w/a", "f /d/w/b", "l /f /d/w/c", "l /f /d/w/d", "l /f /d/w/e", "l /f /d/w/f", "h /d/w")
	has(t, "busy", s, "d:3(e:5() f:4 h:6() w:9(a:10() b:11 c:2 d:2 e:2 f:2)) e:7() f:2 g:2 h:8()")
	return s
}

// crowded is a system with all nodes that there may be: the root with /a (six files), /b (six files), and /c.
func crowded(t *testing.T) *nodes.System {
	t.Helper()
	s := with(t, "d /a", "d /b", "f /c")
	for _, dir := range []string{"/a/", "/b/"} {
		for _, name := range []string{"1", "2", "3", "4", "5", "6"} {
			do(t, s, "f "+dir+name)
		}
	}
	if len(s.Look()) != api.MaxNodes {
		t.Fatal(len(s.Look()))
	}
	return s
}
