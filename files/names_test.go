package files_test

import (
	"math"
	"strings"
	"testing"

	"dredger/api"
	"dredger/files"
)

// TestName: each call does what it does in nodes, and tells its error; to plays no part where there is one path.
func TestName(t *testing.T) {
	x := files.New(0)
	opens(t, x, "/a", api.FlagWrite|api.FlagMake, 1)
	names(t, x, api.CallMkdir, "/d", "anything")
	stats(t, x, "/d", api.NodeDir, 1, 0)
	names(t, x, api.CallLink, "/a", "/d/b")
	stats(t, x, "/d/b", api.NodeFile, 2, 0)
	stats(t, x, "/a", api.NodeFile, 2, 0)
	names(t, x, api.CallRename, "/d/b", "/c")
	stats(t, x, "/d", api.NodeDir, 1, 0)
	stats(t, x, "/c", api.NodeFile, 2, 0)
	names(t, x, api.CallUnlink, "/a", "")
	stats(t, x, "/c", api.NodeFile, 1, 0)
	names(t, x, api.CallRmdir, "/d", "//")
	stats(t, x, "/", api.NodeDir, 1, 1)

	names(t, x, api.CallMkdir, "/d", "")
	names(t, x, api.CallMkdir, "/d/e", "")
	for _, c := range []struct {
		call     int
		path, to string
		want     api.Err
	}{
		{api.CallUnlink, "/no", "", api.ENOENT},
		{api.CallUnlink, "/d", "", api.EISDIR},
		{api.CallUnlink, "", "", api.EINVAL},
		{api.CallMkdir, "/c", "", api.EEXIST},
		{api.CallMkdir, "/", "", api.EINVAL},
		{api.CallMkdir, "/toolong", "", api.ENAME},
		{api.CallRmdir, "/c", "", api.ENOTDIR},
		{api.CallRmdir, "/d", "", api.EFULL},
		{api.CallRmdir, "/no", "", api.ENOENT},
		{api.CallLink, "/d", "/x", api.EPERM},
		{api.CallLink, "/no", "/x", api.ENOENT},
		{api.CallLink, "/c", "/d", api.EEXIST},
		{api.CallRename, "/no", "/x", api.ENOENT},
		{api.CallRename, "/c", "/d", api.EISDIR},
		{api.CallRename, "/d", "/c", api.ENOTDIR},
		{api.CallRename, "/d", "/d/e/x", api.EINVAL},
		{api.CallRename, "/c", "", api.EINVAL},
	} {
		refuses(t, x, "Name "+c.path+" "+c.to, c.want, func() api.Err { return x.Name(c.call, c.path, c.to) })
	}
}

// TestNoSuchCall: every other call tells EINVAL, whatever the paths.
func TestNoSuchCall(t *testing.T) {
	x := files.New(0)
	opens(t, x, "/a", api.FlagWrite|api.FlagMake, 1)
	others := []int{math.MinInt, -1, api.NumCalls, 99, math.MaxInt}
	for call := range api.NumCalls {
		if call < api.CallUnlink || call > api.CallRename {
			others = append(others, call)
		}
	}
	for _, call := range others {
		for _, path := range []string{"/a", "/no", "/no/no", "", "/toolong"} {
			refuses(t, x, "Name", api.EINVAL, func() api.Err { return x.Name(call, path, "/x") })
		}
	}
}

func TestStat(t *testing.T) {
	x := mixed(t)
	writes(t, x, 2, "abc")
	names(t, x, api.CallLink, "/f", "/d/g")
	stats(t, x, "/", api.NodeDir, 1, 2)
	stats(t, x, "/d", api.NodeDir, 1, 1)
	stats(t, x, "/f", api.NodeFile, 2, 3)
	stats(t, x, "/d/g", api.NodeFile, 2, 3)
	for path, want := range map[string]api.Err{
		"": api.EINVAL, "f": api.EINVAL, "//": api.EINVAL, "/f/": api.ENOTDIR, "/f/x": api.ENOTDIR, "/no": api.ENOENT, "/no/x": api.ENOENT, "/toolong": api.ENAME,
	} {
		refuses(t, x, "Stat "+path, want, func() api.Err {
			info, e := x.Stat(path)
			if info != (api.Info{}) {
				t.Errorf("Stat(%q) is refused, and answers %v", path, info)
			}
			return e
		})
		refuses(t, x, "Truncate "+path, want, func() api.Err { return x.Truncate(path, 0) })
	}
}

func TestTruncate(t *testing.T) {
	x := mixed(t)
	writes(t, x, 2, "abc")
	for _, size := range []int{2, 0, 17, api.MaxFile} {
		if e := x.Truncate("/f", size); e != 0 {
			t.Errorf("Truncate to %d: %v", size, e)
		}
		stats(t, x, "/f", api.NodeFile, 1, size)
		offset(t, "truncated", x, 2, 3)
	}
	reads(t, x, 1, 99, strings.Repeat("\x00", api.MaxFile))
	for _, c := range []struct {
		path string
		size int
		want api.Err
	}{
		{"/", 0, api.EISDIR},
		{"/d", 0, api.EISDIR},
		{"/d", -1, api.EISDIR},
		{"/f", -1, api.EINVAL},
		{"/f", math.MinInt, api.EINVAL},
		{"/f", api.MaxFile + 1, api.EFBIG},
		{"/f", math.MaxInt, api.EFBIG},
	} {
		refuses(t, x, "Truncate "+c.path, c.want, func() api.Err { return x.Truncate(c.path, c.size) })
	}
}

// TestReadBehindACut: an offset stays where it is when its file is cut.
func TestReadBehindACut(t *testing.T) {
	x := mixed(t)
	writes(t, x, 2, "abcdef")
	if e := x.Truncate("/f", 2); e != 0 {
		t.Fatal(e)
	}
	writes(t, x, 2, "g")
	writes(t, x, 4, "h")
	reads(t, x, 1, 99, "ab\x00\x00\x00\x00gh")
}
