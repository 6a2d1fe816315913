package files_test

import (
	"fmt"
	"math"
	"testing"

	"dredger/api"
	"dredger/files"
)

// numbers is a source of the same numbers each time.
type numbers uint64

func (n *numbers) next(below int) int {
	*n = *n*6364136223846793005 + 1442695040888963407
	return int(uint64(*n)>>33) % below
}

func (n *numbers) bytes(count int) []byte {
	b := make([]byte, count)
	for i := range b {
		b[i] = byte(1 + n.next(255))
	}
	return b
}

// pick is one of a list.
func pick[T any](n *numbers, list ...T) T { return list[n.next(len(list))] }

// twin is a table and the model of it, which are made to do the same.
type twin struct {
	*numbers
	table *files.Table
	model *model
}

// told is a call, as it was made, and what it answered.
type told struct {
	call  string
	value any
	waits bool
	err   api.Err
}

func (x twin) path() string {
	switch x.next(12) {
	case 0:
		return pick(x.numbers, "", "/", "//", "a", "/a/", "/d//a", "/toolong", "/d/toolong", "/no/a", "/a/a")
	case 1, 2, 3, 4:
		return pick(x.numbers, "/d", "/e") + "/" + x.name()
	}
	return "/" + x.name()
}

func (x twin) name() string {
	return pick(x.numbers, "a", "a", "a", "b", "b", "c", "d", "d", "d", "e", "f", "g", "h", "i")
}

// file is an open file's number, or nearly.
func (x twin) file() int {
	if x.next(20) == 0 {
		return pick(x.numbers, math.MinInt, -1, 0, api.MaxFiles+1, math.MaxInt)
	}
	return 1 + x.next(api.MaxFiles)
}

func (x twin) flags() int {
	if x.next(12) == 0 {
		return pick(x.numbers, math.MinInt, -1, 0, api.FlagAppend, api.FlagMake, 60, 64, 65, 128|3, math.MaxInt)
	}
	return 1 + x.next(63)
}

// size is one of a file, or an offset into it, or nearly.
func (x twin) size() int {
	if x.next(6) == 0 {
		return pick(x.numbers, math.MinInt, -1<<20-1, -1<<20, -api.MaxFile, -1, 0, api.MaxFile-1, api.MaxFile, api.MaxFile+1, 1<<20-1, 1<<20, 1<<20+1, math.MaxInt)
	}
	return x.next(api.MaxFile)
}

// step makes one call of both, and tells its name, and what they answered.
func (x twin) step() (name string, got, want told) {
	switch name = pick(x.numbers, "Open", "Open", "Open", "Pipe", "Read", "Read", "Read", "Write", "Write", "Write", "Write", "Seek", "Seek", "Hold", "Drop", "Drop", "Drop", "Name", "Name", "Name", "Stat", "Truncate"); name {
	case "Open":
		path, flags := x.path(), x.flags()
		n, e := x.table.Open(path, flags)
		k, f := x.model.open(path, flags)
		call := fmt.Sprintf("(%q, %d)", path, flags)
		got, want = told{call, n, false, e}, told{call, k, false, f}
	case "Pipe":
		r, w, e := x.table.Pipe()
		p, q, f := x.model.pipe()
		got, want = told{"()", [2]int{r, w}, false, e}, told{"()", [2]int{p, q}, false, f}
	case "Read", "Write", "Seek":
		got, want = x.move(name)
	case "Hold", "Drop":
		got, want = x.holdOrDrop(name)
	default:
		got, want = x.ofPaths(name)
	}
	return name, got, want
}

func (x twin) move(name string) (got, want told) {
	n := x.file()
	switch name {
	case "Read":
		count := x.size()
		if x.next(2) == 0 {
			count = x.next(12)
		}
		b, waits, e := x.table.Read(n, count)
		c, must, f := x.model.read(n, count)
		call := fmt.Sprintf("(%d, %d)", n, count)
		return told{call, string(b), waits, e}, told{call, string(c), must, f}
	case "Write":
		b := x.bytes(pick(x.numbers, x.next(12), x.next(60), 0))
		k, waits, e := x.table.Write(n, b)
		l, must, f := x.model.write(n, b)
		call := fmt.Sprintf("(%d, %q)", n, b)
		return told{call, k, waits, e}, told{call, l, must, f}
	}
	off, whence := x.size(), pick(x.numbers, 0, 0, 0, 1, 1, 1, 2, 2, 2, 3, -1, math.MaxInt, math.MinInt)
	if x.next(2) == 0 {
		off = -off
	}
	k, e := x.table.Seek(n, off, whence)
	l, f := x.model.seek(n, off, whence)
	call := fmt.Sprintf("(%d, %d, %d)", n, off, whence)
	return told{call, k, false, e}, told{call, l, false, f}
}

// holdOrDrop does so many times over now and then, as a file may be held often.
func (x twin) holdOrDrop(name string) (got, want told) {
	n := x.file()
	got.call = fmt.Sprintf("(%d)", n)
	want.call = got.call
	for range pick(x.numbers, 1, 1, 1, 1, 1, 2, 2, 700) {
		if name == "Hold" {
			got.err, want.err = x.table.Hold(n), x.model.hold(n)
		} else {
			got.err, want.err = x.table.Drop(n), x.model.drop(n)
		}
		if got.err != want.err {
			break
		}
	}
	return got, want
}

func (x twin) ofPaths(name string) (got, want told) {
	path, to, size := x.path(), x.path(), x.size()
	switch name {
	case "Name":
		call := api.CallUnlink + x.next(api.CallRename-api.CallUnlink+1)
		if x.next(10) == 0 {
			call = pick(x.numbers, math.MinInt, -1, api.CallOpen, api.CallUnlink-1, api.CallRename+1, api.NumCalls, math.MaxInt)
		}
		got.call = fmt.Sprintf("(%d, %q, %q)", call, path, to)
		got.err, want.err = x.table.Name(call, path, to), x.model.name(call, path, to)
	case "Stat":
		got.call = fmt.Sprintf("(%q)", path)
		got.value, got.err = x.table.Stat(path)
		want.value, want.err = x.model.stat(path)
	case "Truncate":
		got.call = fmt.Sprintf("(%q, %d)", path, size)
		got.err, want.err = x.table.Truncate(path, size), x.model.truncate(path, size)
	}
	want.call = got.call
	return got, want
}

// compare makes many calls of both, holds each answer and all that a table tells behind it against the model, and calls look.
func compare(t *testing.T, seed, defects, steps int, look func(name string, answer told, is state)) {
	t.Helper()
	source := numbers(seed)
	x := twin{&source, files.New(defects), newModel(defects)}
	before := stateOf(t, x.table)
	for i := range steps {
		name, got, want := x.step()
		if got != want {
			t.Fatalf("defects %d, step %d: %s%s: %v, want %v", defects, i, name, got.call, got, want)
		}
		is := stateOf(t, x.table)
		if !same(is, x.model.state()) {
			t.Fatalf("defects %d, step %d: behind %s%s: %v, want %v", defects, i, name, got.call, is, x.model.state())
		}
		if (got.err != 0 || got.waits) && name != "Hold" && name != "Drop" && !same(is, before) {
			t.Fatalf("defects %d, step %d: %s%s has changed something: %v", defects, i, name, got.call, got)
		}
		look(name, got, is)
		before = is
	}
}

// promised is which errors the chapter names for each call, what lies below included.
func promised() map[string][]api.Err {
	walking := []api.Err{0, api.EINVAL, api.ENOTDIR, api.ENAME, api.ENOENT}
	return map[string][]api.Err{
		"Open":     append([]api.Err{api.ENFILE, api.EEXIST, api.EISDIR, api.ENOSPC}, walking...),
		"Pipe":     {0, api.ENFILE},
		"Read":     {0, api.EBADF, api.EINVAL, api.EISDIR},
		"Write":    {0, api.EBADF, api.EPIPE, api.EFBIG, api.ENOSPC},
		"Seek":     {0, api.EBADF, api.ESPIPE, api.EINVAL},
		"Hold":     {0, api.EBADF, api.EAGAIN},
		"Drop":     {0, api.EBADF},
		"Name":     append([]api.Err{api.EEXIST, api.ENOSPC, api.EISDIR, api.EFULL, api.EPERM}, walking...),
		"Stat":     walking,
		"Truncate": append([]api.Err{api.EISDIR, api.EFBIG, api.ENOSPC}, walking...),
	}
}

// TestAgainstTheModel holds a table of each choice of defects against the model, and meets all errors, and no others.
func TestAgainstTheModel(t *testing.T) {
	met := map[string]map[api.Err]int{}
	waits := map[string]int{}
	for defects := range 64 {
		for round := range 2 {
			compare(t, 100*defects+round, defects, 800, func(name string, answer told, _ state) {
				if met[name] == nil {
					met[name] = map[api.Err]int{}
				}
				met[name][answer.err]++
				if answer.waits {
					waits[name]++
				}
			})
		}
	}
	for call, errs := range promised() {
		for _, e := range errs {
			if met[call][e] == 0 {
				t.Errorf("%s never told %v", call, e)
			}
			delete(met[call], e)
		}
		if len(met[call]) > 0 {
			t.Errorf("%s told what the chapter does not name: %v", call, met[call])
		}
	}
	if waits["Read"] == 0 || waits["Write"] == 0 || len(waits) != 2 {
		t.Error("must wait:", waits)
	}
}

// TestDefectsThatMeanNothing: other bits play no part.
func TestDefectsThatMeanNothing(t *testing.T) {
	for i, defects := range []int{64, 1 << 40, math.MinInt, -1, math.MaxInt, ^63, ^63 | api.DefectWriter} {
		compare(t, 9000+i, defects, 400, func(string, told, state) {})
	}
}

// TestHeldAsOften: without defects each node is held as often as open files are of it, each pipe has as many readers and writers.
func TestHeldAsOften(t *testing.T) {
	for seed := range 20 {
		compare(t, 20000+seed, 0, 500, func(name string, answer told, is state) {
			count := map[[2]int]int{}
			for _, f := range is.open {
				count[[2]int{f.Kind, f.Of}]++
			}
			for _, n := range is.nodes {
				if n.Held != count[[2]int{api.OpenFile, n.Number}] {
					t.Fatalf("behind %s%s: node %d is held %d times, with the open files %v", name, answer.call, n.Number, n.Held, is.open)
				}
				delete(count, [2]int{api.OpenFile, n.Number})
			}
			for _, p := range is.pipes {
				r, w := [2]int{api.OpenRead, p.Number}, [2]int{api.OpenWrite, p.Number}
				if p.Readers != count[r] || p.Writers != count[w] {
					t.Fatalf("behind %s%s: pipe %v, with the open files %v", name, answer.call, p, is.open)
				}
				delete(count, r)
				delete(count, w)
			}
			if len(count) > 0 {
				t.Fatalf("behind %s%s: open files of what is not there: %v", name, answer.call, count)
			}
		})
	}
}
