package files_test

import (
	"testing"

	"dredger/api"
	"dredger/files"
)

func TestHoldAndDrop(t *testing.T) {
	x := mixed(t)
	for _, f := range x.Look() {
		for f.Held = 2; f.Held <= 1000; f.Held++ {
			if e := x.Hold(f.Number); e != 0 {
				t.Fatalf("Hold(%d): %v", f.Number, e)
			}
			is(t, x, f)
		}
		refuses(t, x, "Hold for the 1001st time", api.EAGAIN, func() api.Err { return x.Hold(f.Number) })
		for f.Held = 999; f.Held >= 1; f.Held-- {
			drops(t, x, f.Number)
			is(t, x, f)
		}
	}
	for _, n := range x.Nodes() {
		if want := map[int]int{1: 0, 2: 1, 3: 4}[n.Number]; n.Held != want {
			t.Errorf("node %d is held %d times, want %d", n.Number, n.Held, want)
		}
	}
	if p := x.Pipes(); len(p) != 1 || p[0] != (api.PipeInfo{Number: 1, Readers: 1, Writers: 1}) {
		t.Errorf("the pipe is held more often than it has ends: %v", p)
	}
	for n := 1; n <= 7; n++ {
		drops(t, x, n)
		refuses(t, x, "Drop of what went", api.EBADF, func() api.Err { return x.Drop(n) })
	}
	if len(x.Look()) != 0 || len(x.Pipes()) != 0 {
		t.Errorf("all is dropped: %v", stateOf(t, x))
	}
	for _, n := range x.Nodes() {
		if n.Held != 0 {
			t.Errorf("node %d is held %d times", n.Number, n.Held)
		}
	}
	opens(t, x, "/f", api.FlagRead, 1)
	is(t, x, api.OpenInfo{Number: 1, Kind: api.OpenFile, Of: 3, Flags: api.FlagRead, Held: 1})
}

// TestAFileWithoutAName is there as long as it is open.
func TestAFileWithoutAName(t *testing.T) {
	x := files.New(0)
	opens(t, x, "/a", api.FlagRead|api.FlagWrite|api.FlagMake, 1)
	opens(t, x, "/a", api.FlagRead, 2)
	writes(t, x, 1, "abc")
	names(t, x, api.CallUnlink, "/a", "")
	drops(t, x, 1)
	reads(t, x, 2, 9, "abc")
	if len(x.Blocks()) != 1 || len(x.Nodes()) != 2 {
		t.Errorf("one is open still: %v", stateOf(t, x))
	}
	drops(t, x, 2)
	if len(x.Blocks()) != 0 || len(x.Nodes()) != 1 {
		t.Errorf("none is open: %v", stateOf(t, x))
	}
}

// TestPipesEnds: each end that goes is counted off, the one that is read as a reader, the other one as a writer.
func TestPipesEnds(t *testing.T) {
	for _, defects := range []int{0, api.DefectWriter, 63 &^ api.DefectWriter, 63} {
		x := files.New(defects)
		piped(t, x, 1, 2)
		piped(t, x, 3, 4)
		drops(t, x, 2)
		drops(t, x, 3)
		writers := 0
		if defects&api.DefectWriter != 0 {
			writers = 1
		}
		want := []api.PipeInfo{{Number: 1, Readers: 1, Writers: writers}, {Number: 2, Readers: 0, Writers: 1}}
		if p := x.Pipes(); len(p) != 2 || p[0] != want[0] || p[1] != want[1] {
			t.Errorf("defects %d: %v, want %v", defects, p, want)
		}
		if b, waits, e := x.Read(1, 1); len(b) != 0 || waits != (writers > 0) || e != 0 {
			t.Errorf("defects %d: a read without a writer: %q, %v, %v", defects, b, waits, e)
		}
		drops(t, x, 1)
		drops(t, x, 4)
		if len(x.Look()) != 0 || len(x.Pipes()) != 2*writers {
			t.Errorf("defects %d: all ends are dropped: %v", defects, stateOf(t, x))
		}
	}
}

// TestDefectsBelow: the file system has them.
func TestDefectsBelow(t *testing.T) {
	for defects := range 8 {
		x := files.New(defects)
		opens(t, x, "/a", api.FlagWrite|api.FlagMake, 1)
		writes(t, x, 1, "abc")
		names(t, x, api.CallLink, "/a", "/b")
		names(t, x, api.CallUnlink, "/b", "")
		stats(t, x, "/a", api.NodeFile, 1+defects&api.DefectLinks, 3)
		drops(t, x, 1)
		opens(t, x, "/a", api.FlagWrite|api.FlagCut, 1)
		if kept := defects&api.DefectBlocks != 0; kept != (len(x.Blocks()) == 1) {
			t.Errorf("defects %d: a file that was cut leaves the blocks %v", defects, x.Blocks())
		}
		opens(t, x, "/c", api.FlagWrite|api.FlagMake, 2)
		drops(t, x, 2)
		names(t, x, api.CallRename, "/a", "/c")
		if kept := defects&api.DefectRename != 0; kept != (len(x.Nodes()) == 3) {
			t.Errorf("defects %d: rename leaves %v", defects, x.Nodes())
		}
	}
}

func TestLook(t *testing.T) {
	x := mixed(t)
	writes(t, x, 2, "abc")
	reads(t, x, 3, 2, "ab")
	if x.Hold(3) != 0 || x.Hold(6) != 0 {
		t.Fatal("Hold")
	}
	drops(t, x, 1)
	piped(t, x, 1, 8)
	want := state{
		open: []api.OpenInfo{
			{Number: 1, Kind: api.OpenRead, Of: 2, Flags: api.FlagRead, Held: 1},
			{Number: 2, Kind: api.OpenFile, Of: 3, Off: 3, Flags: api.FlagWrite, Held: 1},
			{Number: 3, Kind: api.OpenFile, Of: 3, Off: 2, Flags: api.FlagRead | api.FlagWrite, Held: 2},
			{Number: 4, Kind: api.OpenFile, Of: 3, Flags: api.FlagWrite | api.FlagAppend, Held: 1},
			{Number: 5, Kind: api.OpenFile, Of: 2, Flags: api.FlagRead, Held: 1},
			{Number: 6, Kind: api.OpenRead, Of: 1, Flags: api.FlagRead, Held: 2},
			{Number: 7, Kind: api.OpenWrite, Of: 1, Flags: api.FlagWrite, Held: 1},
			{Number: 8, Kind: api.OpenWrite, Of: 2, Flags: api.FlagWrite, Held: 1},
		},
		nodes: []api.Node{
			{Number: 1, Kind: api.NodeDir, Links: 1, Size: 2, Names: []string{"d", "f"}, Nodes: []int{2, 3}},
			{Number: 2, Kind: api.NodeDir, Links: 1, Held: 1},
			{Number: 3, Kind: api.NodeFile, Links: 1, Size: 3, Held: 3, Blocks: []int{1}},
		},
		blocks: []int{1},
		pipes:  []api.PipeInfo{{Number: 1, Readers: 1, Writers: 1}, {Number: 2, Readers: 1, Writers: 1}},
		bytes:  map[int]string{2: "", 3: "abc"},
	}
	if is := stateOf(t, x); !same(is, want) {
		t.Errorf("%v, want %v", is, want)
	}
}
