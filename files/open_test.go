package files_test

import (
	"math"
	"strings"
	"testing"

	"dredger/api"
	"dredger/files"
)

func TestNew(t *testing.T) {
	for _, defects := range []int{0, 63, -1, math.MinInt} {
		x := files.New(defects)
		if len(x.Look()) != 0 || len(x.Pipes()) != 0 || len(x.Blocks()) != 0 || len(x.Nodes()) != 1 {
			t.Errorf("a new table with defects %d: %v", defects, stateOf(t, x))
		}
	}
}

// TestFlags: which flags may be, and that they are kept as they are.
func TestFlags(t *testing.T) {
	for flags := range 64 {
		x := files.New(0)
		opens(t, x, "/a", api.FlagRead|api.FlagMake, 1)
		drops(t, x, 1)
		if flags&3 == 0 {
			cannotOpen(t, x, "/a", flags, api.EINVAL)
			continue
		}
		if set(flags, api.FlagMake|api.FlagOnly) {
			cannotOpen(t, x, "/a", flags, api.EEXIST)
			continue
		}
		opens(t, x, "/a", flags, 1)
		is(t, x, api.OpenInfo{Number: 1, Kind: api.OpenFile, Of: 2, Flags: flags, Held: 1})
	}
	x := files.New(0)
	for _, flags := range []int{64, 64 | 3, 1 << 40, 1<<40 | 1, -1, -64 | 1, math.MinInt, math.MinInt | 3, math.MaxInt} {
		cannotOpen(t, x, "/", flags, api.EINVAL)
		cannotOpen(t, x, "/a", flags, api.EINVAL)
	}
}

// TestMake: FlagMake makes a file where there is none, and tells what nodes tells.
func TestMake(t *testing.T) {
	x := files.New(0)
	cannotOpen(t, x, "/a", api.FlagRead, api.ENOENT)
	cannotOpen(t, x, "/a", api.FlagWrite|api.FlagOnly|api.FlagCut|api.FlagAppend, api.ENOENT)
	opens(t, x, "/a", api.FlagRead|api.FlagMake, 1)
	stats(t, x, "/a", api.NodeFile, 1, 0)
	opens(t, x, "/a", api.FlagRead|api.FlagMake, 2)
	opens(t, x, "/b", api.FlagWrite|api.FlagMake|api.FlagOnly, 3)
	opens(t, x, "/b", api.FlagWrite|api.FlagOnly, 4)
	for _, flags := range []int{api.FlagRead, api.FlagWrite} {
		cannotOpen(t, x, "/b", flags|api.FlagMake|api.FlagOnly, api.EEXIST)
		cannotOpen(t, x, "/", flags|api.FlagMake|api.FlagOnly, api.EEXIST)
		cannotOpen(t, x, "/", flags|api.FlagMake|api.FlagOnly|api.FlagCut, api.EEXIST)
	}
	for _, flags := range []int{api.FlagRead, api.FlagRead | api.FlagMake, api.FlagWrite | api.FlagMake | api.FlagOnly} {
		cannotOpen(t, x, "", flags, api.EINVAL)
		cannotOpen(t, x, "a", flags, api.EINVAL)
		cannotOpen(t, x, "//", flags, api.EINVAL)
		cannotOpen(t, x, "/a/x", flags, api.ENOTDIR)
		cannotOpen(t, x, "/a/", flags, api.ENOTDIR)
		cannotOpen(t, x, "/no/x", flags, api.ENOENT)
		cannotOpen(t, x, "/toolong", flags, api.ENAME)
		cannotOpen(t, x, "/"+strings.Repeat("x", 1000), flags, api.ENAME)
	}
	for _, path := range []string{"/c", "/d", "/e", "/f"} {
		names(t, x, api.CallMkdir, path, "")
	}
	cannotOpen(t, x, "/g", api.FlagRead, api.ENOENT)
	cannotOpen(t, x, "/g", api.FlagRead|api.FlagMake, api.ENOSPC)
}

// TestMakeWithoutANode: there are no more nodes, but names.
func TestMakeWithoutANode(t *testing.T) {
	x := files.New(0)
	for _, path := range []string{"/a", "/b", "/c", "/a/1", "/a/2", "/a/3", "/a/4", "/a/5", "/a/6", "/b/1", "/b/2", "/b/3", "/b/4", "/b/5", "/b/6"} {
		names(t, x, api.CallMkdir, path, "")
	}
	cannotOpen(t, x, "/c/x", api.FlagRead|api.FlagMake, api.ENOSPC)
	names(t, x, api.CallRmdir, "/b/6", "")
	opens(t, x, "/c/x", api.FlagRead|api.FlagMake, 1)
	is(t, x, api.OpenInfo{Number: 1, Kind: api.OpenFile, Of: 16, Flags: api.FlagRead | api.FlagMake, Held: 1})
}

// TestDirectories may be opened to be read, not to be written.
func TestDirectories(t *testing.T) {
	x := files.New(0)
	names(t, x, api.CallMkdir, "/d", "")
	for _, path := range []string{"/", "/d"} {
		for flags := range 64 {
			if set(flags, api.FlagWrite) && !set(flags, api.FlagMake|api.FlagOnly) {
				cannotOpen(t, x, path, flags, api.EISDIR)
			}
		}
	}
	opens(t, x, "/", api.FlagRead, 1)
	opens(t, x, "/d", api.FlagRead|api.FlagCut|api.FlagMake|api.FlagAppend, 2)
	is(t, x, api.OpenInfo{Number: 1, Kind: api.OpenFile, Of: 1, Flags: api.FlagRead, Held: 1})
	is(t, x, api.OpenInfo{Number: 2, Kind: api.OpenFile, Of: 2, Flags: 45, Held: 1})
	refuses(t, x, "Rmdir of an open directory", api.EINVAL, func() api.Err { return x.Name(api.CallRmdir, "/d", "") })
	drops(t, x, 2)
	names(t, x, api.CallRmdir, "/d", "")
}

// TestCut: a file is cut only if it is opened to be written.
func TestCut(t *testing.T) {
	for flags := range 64 {
		if flags&3 == 0 || set(flags, api.FlagMake|api.FlagOnly) {
			continue
		}
		x := files.New(0)
		opens(t, x, "/a", api.FlagWrite|api.FlagMake, 1)
		writes(t, x, 1, strings.Repeat("x", 40))
		opens(t, x, "/a", flags, 2)
		size, blocks := 40, 3
		if set(flags, api.FlagCut|api.FlagWrite) {
			size, blocks = 0, 0
		}
		stats(t, x, "/a", api.NodeFile, 1, size)
		if len(x.Blocks()) != blocks {
			t.Errorf("flags %d: the blocks %v are allocated", flags, x.Blocks())
		}
		offset(t, "the other one", x, 1, 40)
		offset(t, "a new one", x, 2, 0)
	}
}

// TestRefusedFirst: flags are asked first, then how many open files there are, then the node.
func TestRefusedFirst(t *testing.T) {
	x := full(t)
	for _, path := range []string{"", "/", "/a", "/no", "/no/no", "/toolong"} {
		cannotOpen(t, x, path, 0, api.EINVAL)
		cannotOpen(t, x, path, 64|api.FlagRead, api.EINVAL)
		for _, flags := range []int{api.FlagRead, api.FlagWrite, api.FlagWrite | api.FlagMake, api.FlagWrite | api.FlagMake | api.FlagOnly, api.FlagWrite | api.FlagCut} {
			cannotOpen(t, x, path, flags, api.ENFILE)
		}
	}
	refuses(t, x, "Pipe", api.ENFILE, func() api.Err { return refusedPipe(t, x) })
	drops(t, x, 4)
	refuses(t, x, "Pipe with one free number", api.ENFILE, func() api.Err { return refusedPipe(t, x) })
	opens(t, x, "/b", api.FlagRead|api.FlagMake, 4)
}

func refusedPipe(t *testing.T, x *files.Table) api.Err {
	t.Helper()
	r, w, e := x.Pipe()
	if r != 0 || w != 0 {
		t.Errorf("Pipe is refused, and answers %d, %d", r, w)
	}
	return e
}

// TestLowestNumber: an open file gets the lowest number that is free, a pipe's ends the two lowest.
func TestLowestNumber(t *testing.T) {
	x := full(t)
	for _, n := range []int{9, 2, 5} {
		drops(t, x, n)
	}
	piped(t, x, 2, 5)
	is(t, x, api.OpenInfo{Number: 2, Kind: api.OpenRead, Of: 1, Flags: api.FlagRead, Held: 1})
	is(t, x, api.OpenInfo{Number: 5, Kind: api.OpenWrite, Of: 1, Flags: api.FlagWrite, Held: 1})
	opens(t, x, "/a", api.FlagRead, 9)
	for _, n := range []int{7, 3, 1} {
		drops(t, x, n)
	}
	opens(t, x, "/", api.FlagRead, 1)
	piped(t, x, 3, 7)
	is(t, x, api.OpenInfo{Number: 3, Kind: api.OpenRead, Of: 2, Flags: api.FlagRead, Held: 1})
	is(t, x, api.OpenInfo{Number: 7, Kind: api.OpenWrite, Of: 2, Flags: api.FlagWrite, Held: 1})
}

// TestTooManyPipes: there are numbers left, but no pipes.
func TestTooManyPipes(t *testing.T) {
	x := files.New(0)
	for i := range api.MaxPipes {
		piped(t, x, 2*i+1, 2*i+2)
	}
	refuses(t, x, "Pipe", api.ENFILE, func() api.Err { return refusedPipe(t, x) })
	drops(t, x, 3)
	refuses(t, x, "Pipe with a writer left", api.ENFILE, func() api.Err { return refusedPipe(t, x) })
	drops(t, x, 4)
	piped(t, x, 3, 4)
}
