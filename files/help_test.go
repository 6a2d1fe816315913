package files_test

import (
	"reflect"
	"slices"
	"testing"

	"dredger/api"
	"dredger/files"
)

// state is all that can be told of a table; bytes are those of the nodes that are open to be read.
type state struct {
	open   []api.OpenInfo
	nodes  []api.Node
	blocks []int
	pipes  []api.PipeInfo
	bytes  map[int]string
}

// stateOf is what a table tells of itself. It reads its open files from their beginning, and seeks back.
func stateOf(t *testing.T, x *files.Table) state {
	t.Helper()
	s := state{open: x.Look(), nodes: x.Nodes(), blocks: x.Blocks(), pipes: x.Pipes(), bytes: map[int]string{}}
	for _, f := range s.open {
		if f.Kind != api.OpenFile || f.Flags&api.FlagRead == 0 {
			continue
		}
		_, before := x.Seek(f.Number, 0, 0)
		b, waits, _ := x.Read(f.Number, api.MaxFile)
		off, behind := x.Seek(f.Number, f.Off, 0)
		if before != 0 || behind != 0 || off != f.Off || waits {
			t.Fatalf("file %d: a seek, a read, a seek back: %v, %v, %v, %d, %v", f.Number, before, b, waits, off, behind)
		}
		s.bytes[f.Of] = string(b)
	}
	return s
}

func same(a, b state) bool {
	for i := range a.nodes {
		if i >= len(b.nodes) || !sameNode(a.nodes[i], b.nodes[i]) {
			return false
		}
	}
	return len(a.nodes) == len(b.nodes) && slices.Equal(a.open, b.open) && slices.Equal(a.blocks, b.blocks) &&
		slices.Equal(a.pipes, b.pipes) && reflect.DeepEqual(a.bytes, b.bytes)
}

func sameNode(a, b api.Node) bool {
	return a.Number == b.Number && a.Kind == b.Kind && a.Links == b.Links && a.Size == b.Size && a.Held == b.Held &&
		slices.Equal(a.Blocks, b.Blocks) && slices.Equal(a.Names, b.Names) && slices.Equal(a.Nodes, b.Nodes)
}

// refuses makes a call that must tell an error, and must have changed nothing then.
func refuses(t *testing.T, x *files.Table, what string, want api.Err, call func() api.Err) {
	t.Helper()
	before := stateOf(t, x)
	if e := call(); e != want {
		t.Errorf("%s: %v, want %v", what, e, want)
	}
	if after := stateOf(t, x); !same(after, before) {
		t.Errorf("%s was refused, and has changed something: %v, it was %v", what, after, before)
	}
}

// opens opens what must be opened, under a number.
func opens(t *testing.T, x *files.Table, path string, flags, want int) {
	t.Helper()
	if n, e := x.Open(path, flags); n != want || e != 0 {
		t.Fatalf("Open(%q, %d): %d, %v, want %d", path, flags, n, e, want)
	}
}

// piped opens a pipe's ends, under two numbers.
func piped(t *testing.T, x *files.Table, r, w int) {
	t.Helper()
	if n, k, e := x.Pipe(); n != r || k != w || e != 0 {
		t.Fatalf("Pipe: %d, %d, %v, want %d, %d", n, k, e, r, w)
	}
}

// cannotOpen tells an error, and 0.
func cannotOpen(t *testing.T, x *files.Table, path string, flags int, want api.Err) {
	t.Helper()
	refuses(t, x, "Open "+path, want, func() api.Err {
		n, e := x.Open(path, flags)
		if n != 0 {
			t.Errorf("Open(%q, %d) is refused, and answers %d", path, flags, n)
		}
		return e
	})
}

func writes(t *testing.T, x *files.Table, n int, b string) {
	t.Helper()
	if k, waits, e := x.Write(n, []byte(b)); k != len(b) || waits || e != 0 {
		t.Fatalf("Write(%d, %q): %d, %v, %v", n, b, k, waits, e)
	}
}

func reads(t *testing.T, x *files.Table, n, count int, want string) {
	t.Helper()
	if b, waits, e := x.Read(n, count); string(b) != want || waits || e != 0 {
		t.Errorf("Read(%d, %d): %q, %v, %v, want %q", n, count, b, waits, e, want)
	}
}

func seeks(t *testing.T, x *files.Table, n, off, whence, want int) {
	t.Helper()
	if k, e := x.Seek(n, off, whence); k != want || e != 0 {
		t.Errorf("Seek(%d, %d, %d): %d, %v, want %d", n, off, whence, k, e, want)
	}
}

func drops(t *testing.T, x *files.Table, n int) {
	t.Helper()
	if e := x.Drop(n); e != 0 {
		t.Fatalf("Drop(%d): %v", n, e)
	}
}

func names(t *testing.T, x *files.Table, call int, path, to string) {
	t.Helper()
	if e := x.Name(call, path, to); e != 0 {
		t.Fatalf("Name(%d, %q, %q): %v", call, path, to, e)
	}
}

// is holds what a table tells of an open file against what it should be.
func is(t *testing.T, x *files.Table, want api.OpenInfo) {
	t.Helper()
	if f := look(t, x, want.Number); f != want {
		t.Errorf("open file %v, want %v", f, want)
	}
}

// look is what a table tells of an open file that must be there.
func look(t *testing.T, x *files.Table, n int) api.OpenInfo {
	t.Helper()
	for _, f := range x.Look() {
		if f.Number == n {
			return f
		}
	}
	t.Fatalf("open file %d is not there", n)
	return api.OpenInfo{}
}

// offset holds an open file's offset against what it should be.
func offset(t *testing.T, what string, x *files.Table, n, want int) {
	t.Helper()
	if f := look(t, x, n); f.Off != want {
		t.Errorf("%s: file %d is at offset %d, want %d", what, n, f.Off, want)
	}
}

// stats holds what is told of a path against what it should be.
func stats(t *testing.T, x *files.Table, path string, kind, links, size int) {
	t.Helper()
	if got, e := x.Stat(path); e != 0 || got != (api.Info{Kind: kind, Links: links, Size: size}) {
		t.Errorf("Stat(%q): %v, %v, want %d, %d, %d", path, got, e, kind, links, size)
	}
}

// full is a table with all open files that there may be, all of node 2, which is /a.
func full(t *testing.T) *files.Table {
	t.Helper()
	x := files.New(0)
	for n := 1; n <= api.MaxFiles; n++ {
		opens(t, x, "/a", api.FlagRead|api.FlagMake, n)
	}
	return x
}

// mixed is a table with an open file of each kind, and of each way to open one: 1 reads /f, 2 writes it, 3 does both, 4 appends, 5 reads the directory /d, 6 and 7 are a pipe's ends.
func mixed(t *testing.T) *files.Table {
	t.Helper()
	x := files.New(0)
	names(t, x, api.CallMkdir, "/d", "")
	opens(t, x, "/f", api.FlagRead|api.FlagMake, 1)
	opens(t, x, "/f", api.FlagWrite, 2)
	opens(t, x, "/f", api.FlagRead|api.FlagWrite, 3)
	opens(t, x, "/f", api.FlagWrite|api.FlagAppend, 4)
	opens(t, x, "/d", api.FlagRead, 5)
	piped(t, x, 6, 7)
	return x
}
