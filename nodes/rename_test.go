package nodes_test

import (
	"strings"
	"testing"

	"dredger/api"
)

func TestRename(t *testing.T) {
	for _, x := range []struct{ path, to, want string }{
		{"/a", "/c", "b:3 c:2 d:4(e:5() x:6) z:7()"},
		{"/a", "/b", "b:2 d:4(e:5() x:6) z:7()"},
		{"/a", "/d/a", "b:3 d:4(a:2 e:5() x:6) z:7()"},
		{"/a", "/d/x", "b:3 d:4(e:5() x:2) z:7()"},
		{"/d/x", "/b", "a:2 b:6 d:4(e:5()) z:7()"},
		{"/d/x", "/d/sixsix", "a:2 b:3 d:4(e:5() sixsix:6) z:7()"},
		{"/d", "/c", "a:2 b:3 c:4(e:5() x:6) z:7()"},
		{"/d", "/z", "a:2 b:3 z:4(e:5() x:6)"},
		{"/d", "/z/y", "a:2 b:3 z:7(y:4(e:5() x:6))"},
		{"/z", "/d/e", "a:2 b:3 d:4(e:7() x:6)"},
		{"/z", "/d/e/z", "a:2 b:3 d:4(e:5(z:7()) x:6)"},
		{"/d/e", "/e", "a:2 b:3 d:4(x:6) e:5() z:7()"},
		{"/d/e", "/d/f", "a:2 b:3 d:4(f:5() x:6) z:7()"},
		{"/a", "/a", "a:2 b:3 d:4(e:5() x:6) z:7()"},
		{"/d", "/d", "a:2 b:3 d:4(e:5() x:6) z:7()"},
		{"/d/e", "/d/e", "a:2 b:3 d:4(e:5() x:6) z:7()"},
	} {
		s := with(t, "f /a", "f /b", "d /d", "d /d/e", "f /d/x", "d /z")
		do(t, s, "m "+x.path+" "+x.to)
		has(t, "Rename "+x.path+" "+x.to, s, x.want)
		for _, n := range s.Look() {
			if n.Links != 1 || n.Held != 0 {
				t.Errorf("Rename %s %s: node %d has %d links", x.path, x.to, n.Number, n.Links)
			}
		}
	}
}

// TestRenameOfLinks: one name of several goes, and another one is there.
func TestRenameOfLinks(t *testing.T) {
	s := with(t, "f /a", "l /a /b", "d /d", "l /a /d/c", "f /x")
	for _, to := range []string{"/a", "/b", "/d/c"} {
		do(t, s, "m /a "+to)
		has(t, "onto another link of the same node", s, "a:2 b:2 d:3(c:2) x:4")
		stats(t, "onto another link of the same node", s, 2, api.NodeFile, 3, 0)
	}
	do(t, s, "m /b /y")
	stats(t, "another name", s, 2, api.NodeFile, 3, 0)
	do(t, s, "m /x /y")
	has(t, "onto a file with other names", s, "a:2 d:3(c:2) y:4")
	stats(t, "onto a file with other names", s, 2, api.NodeFile, 2, 0)
	stats(t, "onto a file with other names", s, 4, api.NodeFile, 1, 0)
	write(t, s, 2, 0, filled('x', 17))
	do(t, s, "m /y /a", "m /a /d/c")
	has(t, "onto the last name", s, "d:3(c:4)")
	stats(t, "onto the last name", s, 2, 0, -1, 0)
	blocks(t, "onto the last name", s)
}

// TestRenameOntoWhatIsHeld: a file that was replaced stays as long as it is held.
func TestRenameOntoWhatIsHeld(t *testing.T) {
	s := with(t, "f /a", "f /b", "h /b", "h /a")
	write(t, s, 3, 0, []byte("bytes"))
	do(t, s, "m /a /b")
	stats(t, "replaced, and held", s, 3, api.NodeFile, 0, 5)
	stats(t, "what replaced it", s, 2, api.NodeFile, 1, 0)
	if b, e := s.Read(3, 0, 9); string(b) != "bytes" || e != 0 {
		t.Error("replaced, and held:", b, e)
	}
	if s.Drop(3) != 0 {
		t.Fatal("Drop")
	}
	stats(t, "replaced, and dropped", s, 3, 0, -1, 0)
	blocks(t, "replaced, and dropped", s)
}

func TestRenameRefused(t *testing.T) {
	for _, x := range []struct {
		path, to string
		want     api.Err
	}{
		// Walking to path's end, and ENOENT, ahead of to.
		{"", "/no/x", api.EINVAL},
		{"/", "/no/x", api.EINVAL},
		{"/", "/", api.EINVAL},
		{"/f/x", "", api.ENOTDIR},
		{"/no/x", "", api.ENOENT},
		{"/toolong", "", api.ENAME},
		{"/no", "", api.ENOENT},
		{"/no", "/no", api.ENOENT},
		{"/no", "/f/x", api.ENOENT},
		{"/no", "/d", api.ENOENT},
		{"/no", "/d/w/new", api.ENOENT},
		// Walking to to's end.
		{"/f", "", api.EINVAL},
		{"/f", "/", api.EINVAL},
		{"/d", "/", api.EINVAL},
		{"/f", "/f/", api.ENOTDIR},
		{"/f", "/f/x", api.ENOTDIR},
		{"/d", "/d/", api.EINVAL},
		{"/d", "/d/toolong", api.ENAME},
		{"/d", "/d/no/x", api.ENOENT},
		{"/d", "/d/f/x", api.ENOTDIR},
		{"/f", "/d/w/toolong", api.ENAME},
		// to is there.
		{"/f", "/e", api.EISDIR},
		{"/f", "/h", api.EISDIR},
		{"/f", "/d", api.EISDIR},
		{"/d/f", "/d", api.EISDIR},
		{"/f", "/d/w/a", api.EISDIR},
		{"/e", "/f", api.ENOTDIR},
		{"/d", "/f", api.ENOTDIR},
		{"/d", "/d/f", api.ENOTDIR},
		{"/d", "/d/w/b", api.ENOTDIR},
		{"/e", "/d/w/b", api.ENOTDIR},
		{"/e", "/d", api.EFULL},
		{"/d/e", "/d", api.EFULL},
		{"/e", "/d/w", api.EFULL}, // which is held, too
		{"/d", "/d/w", api.EFULL},
		{"/e", "/h", api.EINVAL},
		{"/e", "/d/h", api.EINVAL},
		{"/d", "/d/h", api.EINVAL},
		// into itself, and below itself.
		{"/d", "/d/e", api.EINVAL},
		{"/d", "/d/new", api.EINVAL},
		{"/e", "/e/new", api.EINVAL},
		{"/h", "/h/new", api.EINVAL},
		{"/d", "/d/e/new", api.EINVAL},
		{"/d", "/d/w/a", api.EINVAL},
		{"/d", "/d/w/new", api.EINVAL}, // where there is no room, too
		{"/d", "/d/w/a/new", api.EINVAL},
		{"/d/w", "/d/w/new", api.EINVAL},
		// no room.
		{"/f", "/d/w/new", api.ENOSPC},
		{"/e", "/d/w/new", api.ENOSPC},
		{"/d/f", "/d/w/new", api.ENOSPC},
	} {
		s := busy(t)
		refuses(t, s, "Rename "+x.path+" "+x.to, x.want, func() api.Err { return s.Rename(x.path, x.to) })
	}
}

// TestRenameInAFullDirectory: there is room, if a name goes out of it, or is replaced.
func TestRenameInAFullDirectory(t *testing.T) {
	for _, x := range []struct{ path, to, want string }{
		{"/d/w/a", "/d/w/new", "b:11 c:2 d:2 e:2 f:2 new:10()"},
		{"/d/w/b", "/d/w/new", "a:10() c:2 d:2 e:2 f:2 new:11"},
		{"/d/w/b", "/d/w/c", "a:10() c:11 d:2 e:2 f:2"},
		{"/d/f", "/d/w/b", "a:10() b:4 c:2 d:2 e:2 f:2"},
		{"/e", "/d/w/a", "a:7() b:11 c:2 d:2 e:2 f:2"},
		{"/d/h", "/d/w/a/x", "a:10(x:6()) b:11 c:2 d:2 e:2 f:2"},
	} {
		s := busy(t)
		do(t, s, "m "+x.path+" "+x.to)
		got := tree(s)
		if want := "w:9(" + x.want + ")"; !strings.Contains(got, want) {
			t.Errorf("Rename %s %s: %q, want %q in it", x.path, x.to, got, want)
		}
	}
}
