package nodes_test

import (
	"math"
	"strings"
	"testing"

	"dredger/api"
	"dredger/nodes"
)

func TestNew(t *testing.T) {
	for _, defects := range []int{0, 1, 7, -1, math.MinInt, math.MaxInt} {
		s := nodes.New(defects)
		want := state{nodes: []api.Node{{Number: 1, Kind: api.NodeDir, Links: 1}}, bytes: map[int]string{}}
		if is := stateOf(t, s); !same(is, want) {
			t.Errorf("New(%d): %v", defects, is)
		}
		if n, e := s.Find("/"); n != 1 || e != 0 {
			t.Errorf("New(%d): the root is %d, %v", defects, n, e)
		}
	}
}

// walks are paths of busy, with what walking all of it tells, and what walking to its end tells; what is there has a node.
func walks() []struct {
	path      string
	node      int
	find, end api.Err
} {
	const six = "sixsix"
	return []struct {
		path      string
		node      int
		find, end api.Err
	}{
		{"/", 1, 0, api.EINVAL},
		{"/f", 2, 0, 0},
		{"/g", 2, 0, 0},
		{"/d", 3, 0, 0},
		{"/d/w/a", 10, 0, 0},
		{"", 0, api.EINVAL, api.EINVAL},
		{"f", 0, api.EINVAL, api.EINVAL},
		{"f/", 0, api.EINVAL, api.EINVAL},
		{"d/f", 0, api.EINVAL, api.EINVAL},
		{" /f", 0, api.EINVAL, api.EINVAL},
		{"\x00", 0, api.EINVAL, api.EINVAL},
		{"toolong", 0, api.EINVAL, api.EINVAL},
		{"//", 0, api.EINVAL, api.EINVAL},
		{"///", 0, api.EINVAL, api.EINVAL},
		{"//f", 0, api.EINVAL, api.EINVAL},
		{"/d/", 0, api.EINVAL, api.EINVAL},
		{"/d//f", 0, api.EINVAL, api.EINVAL},
		{"/d/w/", 0, api.EINVAL, api.EINVAL},
		{"/f/", 0, api.ENOTDIR, api.ENOTDIR},
		{"/f//", 0, api.ENOTDIR, api.ENOTDIR},
		{"/f/x", 0, api.ENOTDIR, api.ENOTDIR},
		{"/d/f/x/y", 0, api.ENOTDIR, api.ENOTDIR},
		{"/f/toolong", 0, api.ENOTDIR, api.ENOTDIR},
		{"/no", 0, api.ENOENT, 0},
		{"/F", 0, api.ENOENT, 0},
		{"/.", 0, api.ENOENT, 0},
		{"/d/..", 0, api.ENOENT, 0},
		{"/f\x00", 0, api.ENOENT, 0},
		{"/d/no", 0, api.ENOENT, 0},
		{"/no/", 0, api.ENOENT, api.ENOENT},
		{"/no/x", 0, api.ENOENT, api.ENOENT},
		{"/no//", 0, api.ENOENT, api.ENOENT},
		{"/no/toolong", 0, api.ENOENT, api.ENOENT},
		{"/d/no/x", 0, api.ENOENT, api.ENOENT},
		{"/" + six, 0, api.ENOENT, 0},
		{"/d/" + six, 0, api.ENOENT, 0},
		{"/" + six + "/x", 0, api.ENOENT, api.ENOENT},
		{"/" + six + "x", 0, api.ENAME, api.ENAME},
		{"/d/" + six + "x", 0, api.ENAME, api.ENAME},
		{"/toolong/", 0, api.ENAME, api.ENAME},
		{"/toolong/x", 0, api.ENAME, api.ENAME},
		{"/d/toolong//", 0, api.ENAME, api.ENAME},
		{"/" + strings.Repeat("x", 1<<20), 0, api.ENAME, api.ENAME},
		{"/" + strings.Repeat("\u00e4", 3), 0, api.ENOENT, 0},
		{"/" + strings.Repeat("\u00e4", 3) + "x", 0, api.ENAME, api.ENAME},
		{strings.Repeat("/", 1<<20), 0, api.EINVAL, api.EINVAL},
		{strings.Repeat("/d", 1<<20), 0, api.ENOENT, api.ENOENT},
	}
}

// short is a path for messages.
func short(path string) string { return path[:min(len(path), 30)] }

func TestFind(t *testing.T) {
	s := busy(t)
	for _, x := range walks() {
		refuses(t, s, "Find("+short(x.path)+")", x.find, func() api.Err {
			n, e := s.Find(x.path)
			if n != x.node {
				t.Errorf("Find(%q): %d, want %d", short(x.path), n, x.node)
			}
			return e
		})
	}
}

// TestWalksToTheEnd: all that make or change something walk to a path's end.
func TestWalksToTheEnd(t *testing.T) {
	for _, x := range walks() {
		if x.end == 0 {
			continue
		}
		s := busy(t)
		for what, call := range map[string]func() api.Err{
			"Make of a file":      func() api.Err { _, e := s.Make(x.path, api.NodeFile); return e },
			"Make of a directory": func() api.Err { _, e := s.Make(x.path, api.NodeDir); return e },
			"Unlink":              func() api.Err { return s.Unlink(x.path) },
			"Rmdir":               func() api.Err { return s.Rmdir(x.path) },
			"Link to it":          func() api.Err { return s.Link("/f", x.path) },
			"Rename of it":        func() api.Err { return s.Rename(x.path, "/new") },
			"Rename to it":        func() api.Err { return s.Rename("/f", x.path) },
		} {
			refuses(t, s, what+" "+short(x.path), x.end, call)
		}
	}
}

// TestWhatIsNotThere: a path that can be walked to, and names nothing.
func TestWhatIsNotThere(t *testing.T) {
	for _, x := range walks() {
		if x.end != 0 || x.find == 0 {
			continue
		}
		s := busy(t)
		refuses(t, s, "Unlink "+x.path, api.ENOENT, func() api.Err { return s.Unlink(x.path) })
		refuses(t, s, "Rmdir "+x.path, api.ENOENT, func() api.Err { return s.Rmdir(x.path) })
		refuses(t, s, "Link of "+x.path, api.ENOENT, func() api.Err { return s.Link(x.path, "/new") })
		refuses(t, s, "Rename of "+x.path, api.ENOENT, func() api.Err { return s.Rename(x.path, "/new") })
		if n, e := s.Make(x.path, api.NodeFile); n != 12 || e != 0 {
			t.Errorf("Make(%q): %d, %v", x.path, n, e)
		}
		if n, e := s.Find(x.path); n != 12 || e != 0 {
			t.Errorf("Find(%q), which was made: %d, %v", x.path, n, e)
		}
	}
}

func TestMake(t *testing.T) {
	s := with(t, "f /b", "d /a", "f /a/x", "d /a/sixsix")
	has(t, "made", s, "a:3(sixsix:5() x:4) b:2")
	stats(t, "a new file", s, 2, api.NodeFile, 1, 0)
	stats(t, "a directory", s, 3, api.NodeDir, 1, 2)
	stats(t, "a new directory", s, 5, api.NodeDir, 1, 0)
	stats(t, "the root", s, 1, api.NodeDir, 1, 2)
	do(t, s, "u /b", "u /a/x", "f /a/z", "d /c", "f /e")
	has(t, "the lowest free number", s, "a:3(sixsix:5() z:2) c:4() e:6")
	blocks(t, "made", s)
}

// TestMakeAnew: what is made has nothing of the node that had its number.
func TestMakeAnew(t *testing.T) {
	s := with(t, "f /a", "l /a /b")
	write(t, s, 2, 0, filled('x', 40))
	do(t, s, "u /a", "u /b", "f /c")
	stats(t, "a file of a number that was free", s, 2, api.NodeFile, 1, 0)
	if s.Resize(2, 40) != 0 {
		t.Fatal("Resize")
	}
	if b, e := s.Read(2, 0, 99); string(b) != string(filled(0, 40)) || e != 0 {
		t.Errorf("it has bytes of the one that was there: %q, %v", b, e)
	}
	do(t, s, "u /c", "d /c", "f /c/x", "u /c/x", "r /c", "d /d", "f /d/y")
	has(t, "a directory of a number that was free", s, "d:2(y:3)")
}

func TestMakeRefused(t *testing.T) {
	for _, x := range []struct {
		path string
		kind int
		want api.Err
	}{
		{"/new", 0, api.EINVAL},
		{"/new", -1, api.EINVAL},
		{"/new", 3, api.EINVAL},
		{"/new", math.MinInt, api.EINVAL},
		{"/new", math.MaxInt, api.EINVAL},
		{"/f", 3, api.EINVAL},
		{"/f/x", 0, api.EINVAL},
		{"/no/x", 0, api.EINVAL},
		{"/toolong", 0, api.EINVAL},
		{"/d/w/new", 0, api.EINVAL},
		{"/f", api.NodeFile, api.EEXIST},
		{"/f", api.NodeDir, api.EEXIST},
		{"/d", api.NodeFile, api.EEXIST},
		{"/d", api.NodeDir, api.EEXIST},
		{"/d/w/a", api.NodeFile, api.EEXIST},
		{"/d/w/new", api.NodeFile, api.ENOSPC},
		{"/d/w/new", api.NodeDir, api.ENOSPC},
		{"/d/w/toolong", api.NodeFile, api.ENAME},
		{"/d/w/", api.NodeFile, api.EINVAL},
		{"/d/w/b/x", api.NodeFile, api.ENOTDIR},
		{"/d/w/new/x", api.NodeFile, api.ENOENT},
	} {
		s := busy(t)
		refuses(t, s, "Make "+x.path, x.want, func() api.Err {
			n, e := s.Make(x.path, x.kind)
			if n != 0 {
				t.Errorf("Make(%q): %d", x.path, n)
			}
			return e
		})
	}
}

func TestMostNames(t *testing.T) {
	s := with(t, "d /d")
	for _, dir := range []string{"/d/", "/"} {
		for _, name := range []string{"1", "2", "3", "4", "5"} {
			do(t, s, "f "+dir+name)
		}
	}
	do(t, s, "f /d/6")
	stats(t, "the most names", s, 1, api.NodeDir, 1, api.MaxNames)
	stats(t, "the most names", s, 2, api.NodeDir, 1, api.MaxNames)
	for _, path := range []string{"/7", "/d/7"} {
		refuses(t, s, "Make "+path, api.ENOSPC, func() api.Err { _, e := s.Make(path, api.NodeFile); return e })
		refuses(t, s, "Link "+path, api.ENOSPC, func() api.Err { return s.Link("/1", path) })
	}
	do(t, s, "u /d/1", "f /d/7", "u /1", "l /2 /7")
}

func TestMostNodes(t *testing.T) {
	s := crowded(t)
	full := func(what string) {
		t.Helper()
		for _, kind := range []int{api.NodeFile, api.NodeDir} {
			refuses(t, s, what, api.ENOSPC, func() api.Err { n, e := s.Make("/new", kind); return e + api.Err(n) })
		}
		refuses(t, s, what, api.EEXIST, func() api.Err { _, e := s.Make("/a", api.NodeFile); return e })
		refuses(t, s, what, api.ENAME, func() api.Err { _, e := s.Make("/toolong", api.NodeFile); return e })
		refuses(t, s, what, api.EINVAL, func() api.Err { _, e := s.Make("/new", 0); return e })
	}
	full("all nodes")
	do(t, s, "l /c /l", "h /b/3")
	held, _ := s.Find("/b/3")
	do(t, s, "u /b/3")
	full("all nodes, one of them without a name")
	if e := s.Drop(held); e != 0 {
		t.Fatal(e)
	}
	if n, e := s.Make("/b/new", api.NodeDir); n != held || e != 0 {
		t.Errorf("behind Drop: %d, %v, want %d", n, e, held)
	}
	full("all nodes once more")
}

func TestUnlink(t *testing.T) {
	s := with(t, "f /a", "d /d", "l /a /d/b", "l /d/b /c", "f /x")
	write(t, s, 2, 0, filled('a', 20))
	do(t, s, "u /a")
	has(t, "one name less", s, "c:2 d:3(b:2) x:4")
	stats(t, "one name less", s, 2, api.NodeFile, 2, 20)
	do(t, s, "u /d/b")
	stats(t, "the last name", s, 2, api.NodeFile, 1, 20)
	blocks(t, "the last name", s, 1, 2)
	do(t, s, "u /c")
	stats(t, "no name", s, 2, 0, -1, 0)
	blocks(t, "no name", s)
	has(t, "no name", s, "d:3() x:4")
	s = busy(t)
	for _, path := range []string{"/e", "/h", "/d", "/d/w"} {
		refuses(t, s, "Unlink "+path, api.EISDIR, func() api.Err { return s.Unlink(path) })
	}
}

func TestRmdir(t *testing.T) {
	s := busy(t)
	for path, want := range map[string]api.Err{
		"/":      api.EINVAL,
		"/f":     api.ENOTDIR,
		"/d/f":   api.ENOTDIR,
		"/d":     api.EFULL,
		"/d/w":   api.EFULL, // which is held, too
		"/h":     api.EINVAL,
		"/d/h":   api.EINVAL,
		"/no":    api.ENOENT,
		"/f/":    api.ENOTDIR,
		"/e/":    api.EINVAL,
		"/d/w/b": api.ENOTDIR,
	} {
		refuses(t, s, "Rmdir "+path, want, func() api.Err { return s.Rmdir(path) })
	}
	do(t, s, "r /e", "r /d/e", "r /d/w/a")
	stats(t, "a directory that was removed", s, 7, 0, -1, 0)
	has(t, "removed", s, "d:3(f:4 h:6() w:9(b:11 c:2 d:2 e:2 f:2)) f:2 g:2 h:8()")
	if s.Drop(8) != 0 {
		t.Fatal("Drop")
	}
	stats(t, "a directory that is not held any more", s, 8, api.NodeDir, 1, 0)
	do(t, s, "r /h")
	stats(t, "a directory that was removed", s, 8, 0, -1, 0)
}

func TestLink(t *testing.T) {
	s := with(t, "f /a", "d /d", "l /a /d/b", "l /d/b /sixsix")
	has(t, "linked", s, "a:2 d:3(b:2) sixsix:2")
	stats(t, "linked", s, 2, api.NodeFile, 3, 0)
	s = crowded(t)
	do(t, s, "l /c /new") // needs no node
}

func TestLinkRefused(t *testing.T) {
	for _, x := range []struct {
		path, to string
		want     api.Err
	}{
		{"", "/f", api.EINVAL},
		{"/no", "", api.ENOENT},
		{"/no", "/f", api.ENOENT},
		{"/f/x", "/toolong", api.ENOTDIR},
		{"/toolong", "/no/x", api.ENAME},
		{"/d/", "/no/x", api.EINVAL},
		{"/", "/new", api.EPERM},
		{"/", "/", api.EPERM},
		{"/d", "", api.EPERM},
		{"/d", "/f", api.EPERM},
		{"/e", "/d/w/new", api.EPERM},
		{"/e", "/no/x", api.EPERM},
		{"/f", "/", api.EINVAL},
		{"/f", "new", api.EINVAL},
		{"/f", "/f", api.EEXIST},
		{"/f", "/g", api.EEXIST},
		{"/f", "/e", api.EEXIST},
		{"/f", "/d/w/a", api.EEXIST},
		{"/f", "/d/w/c", api.EEXIST},
		{"/f", "/d/w/new", api.ENOSPC},
		{"/d/w/b", "/d/w/new", api.ENOSPC},
		{"/f", "/d/w/toolong", api.ENAME},
		{"/f", "/d/w/", api.EINVAL},
		{"/f", "/f/x", api.ENOTDIR},
		{"/f", "/no/x", api.ENOENT},
	} {
		s := busy(t)
		refuses(t, s, "Link "+x.path+" "+x.to, x.want, func() api.Err { return s.Link(x.path, x.to) })
	}
}
