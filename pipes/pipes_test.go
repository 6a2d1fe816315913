package pipes_test

import (
	"math"
	"slices"
	"strings"
	"testing"

	"dredger/api"
	"dredger/pipes"
)

// with is a table without defects, with so many pipes.
func with(t *testing.T, count int) *pipes.Table {
	t.Helper()
	return after(t, 0, count)
}

// after is a table with defects, with so many pipes.
func after(t *testing.T, defects, count int) *pipes.Table {
	t.Helper()
	x := pipes.New(defects)
	for i := range count {
		if n, e := x.Make(); n != i+1 || e != 0 {
			t.Fatalf("Make: %d, %v, want %d", n, e, i+1)
		}
	}
	return x
}

// pipe is a pipe as it should be told.
func pipe(number, readers, writers, bytes int) api.PipeInfo {
	return api.PipeInfo{Number: number, Readers: readers, Writers: writers, Bytes: bytes}
}

// has holds all that a table tells against a list.
func has(t *testing.T, what string, x *pipes.Table, want ...api.PipeInfo) {
	t.Helper()
	if got := x.Look(); !slices.Equal(got, want) {
		t.Errorf("%s: %v, want %v", what, got, want)
	}
}

func reads(t *testing.T, what string, x *pipes.Table, n, count int, want string, waits bool, err api.Err) {
	t.Helper()
	if b, w, e := x.Read(n, count); string(b) != want || w != waits || e != err {
		t.Errorf("%s: Read(%d, %d): %q, %v, %v, want %q, %v, %v", what, n, count, b, w, e, want, waits, err)
	}
}

func writes(t *testing.T, what string, x *pipes.Table, n int, b string, want int, waits bool, err api.Err) {
	t.Helper()
	if k, w, e := x.Write(n, []byte(b)); k != want || w != waits || e != err {
		t.Errorf("%s: Write(%d, %q): %d, %v, %v, want %d, %v, %v", what, n, b, k, w, e, want, waits, err)
	}
}

func drops(t *testing.T, x *pipes.Table, n int, writer bool) {
	t.Helper()
	if e := x.Drop(n, writer); e != 0 {
		t.Fatalf("Drop(%d, %v): %v", n, writer, e)
	}
}

func TestNew(t *testing.T) {
	for _, defects := range []int{0, api.DefectWriter, -1, math.MinInt} {
		has(t, "a new table", pipes.New(defects))
	}
}

func TestMake(t *testing.T) {
	x := with(t, api.MaxPipes)
	has(t, "all pipes", x, pipe(1, 1, 1, 0), pipe(2, 1, 1, 0), pipe(3, 1, 1, 0), pipe(4, 1, 1, 0))
	if n, e := x.Make(); n != 0 || e != api.ENFILE {
		t.Errorf("Make of one too many: %d, %v", n, e)
	}
	writes(t, "a pipe that goes", x, 3, "abc", 3, false, 0)
	for _, n := range []int{3, 2} {
		drops(t, x, n, false)
		drops(t, x, n, true)
	}
	has(t, "two went", x, pipe(1, 1, 1, 0), pipe(4, 1, 1, 0))
	for _, want := range []int{2, 3} {
		if n, e := x.Make(); n != want || e != 0 {
			t.Errorf("Make: %d, %v, want the lowest free number %d", n, e, want)
		}
	}
	has(t, "a new one is empty", x, pipe(1, 1, 1, 0), pipe(2, 1, 1, 0), pipe(3, 1, 1, 0), pipe(4, 1, 1, 0))
	reads(t, "a new one is empty", x, 3, 8, "", true, 0)
}

// TestNoSuchPipe: of a pipe that there is not each call tells EBADF, whatever else it is given.
func TestNoSuchPipe(t *testing.T) {
	x := with(t, 3)
	drops(t, x, 2, true)
	drops(t, x, 2, false)
	for _, n := range []int{math.MinInt, -1, 0, 2, 4, 5, 1 << 40, math.MaxInt} {
		for _, count := range []int{-1, 0, 1} {
			reads(t, "no such pipe", x, n, count, "", false, api.EBADF)
		}
		writes(t, "no such pipe", x, n, "", 0, false, api.EBADF)
		writes(t, "no such pipe", x, n, "x", 0, false, api.EBADF)
		for _, writer := range []bool{false, true} {
			if e, f := x.Hold(n, writer), x.Drop(n, writer); e != api.EBADF || f != api.EBADF {
				t.Errorf("Hold and Drop of pipe %d: %v, %v", n, e, f)
			}
		}
	}
	has(t, "refused", x, pipe(1, 1, 1, 0), pipe(3, 1, 1, 0))
}

func TestRead(t *testing.T) {
	x := with(t, 2)
	for _, count := range []int{math.MinInt, -1} {
		reads(t, "empty", x, 1, count, "", false, api.EINVAL)
	}
	reads(t, "none of an empty one", x, 1, 0, "", false, 0)
	for _, count := range []int{1, 8, math.MaxInt} {
		reads(t, "empty, with a writer", x, 1, count, "", true, 0)
	}
	writes(t, "some", x, 1, "abcdef", 6, false, 0)
	reads(t, "below 0", x, 1, -1, "", false, api.EINVAL)
	reads(t, "none", x, 1, 0, "", false, 0)
	reads(t, "some", x, 1, 2, "ab", false, 0)
	has(t, "they are taken", x, pipe(1, 1, 1, 4), pipe(2, 1, 1, 0))
	reads(t, "all", x, 1, 4, "cdef", false, 0)
	reads(t, "empty again", x, 1, 1, "", true, 0)
	writes(t, "few", x, 1, "gh", 2, false, 0)
	reads(t, "more than there are", x, 1, math.MaxInt, "gh", false, 0)
	reads(t, "another one", x, 2, 1, "", true, 0)

	writes(t, "the last", x, 1, "xyz", 3, false, 0)
	drops(t, x, 1, true)
	reads(t, "what a writer left", x, 1, 2, "xy", false, 0)
	reads(t, "what a writer left", x, 1, 2, "z", false, 0)
	reads(t, "empty, without a writer", x, 1, 2, "", false, 0)
	reads(t, "empty, without a writer, below 0", x, 1, -1, "", false, api.EINVAL)
}

// TestReadWithoutAReader: a read asks nothing of readers.
func TestReadWithoutAReader(t *testing.T) {
	x := with(t, 1)
	writes(t, "some", x, 1, "ab", 2, false, 0)
	drops(t, x, 1, false)
	reads(t, "without a reader", x, 1, 1, "a", false, 0)
	reads(t, "without a reader", x, 1, 9, "b", false, 0)
	reads(t, "without a reader", x, 1, 9, "", true, 0)
}

func TestWrite(t *testing.T) {
	x := with(t, 2)
	writes(t, "none", x, 1, "", 0, false, 0)
	writes(t, "ten bytes", x, 1, "0123456789", api.Pipe, false, 0)
	has(t, "full", x, pipe(1, 1, 1, api.Pipe), pipe(2, 1, 1, 0))
	writes(t, "full", x, 1, "x", 0, true, 0)
	writes(t, "none into a full one", x, 1, "", 0, false, 0)
	reads(t, "some", x, 1, 3, "012", false, 0)
	writes(t, "as many as go in", x, 1, "abcde", 3, false, 0)
	writes(t, "full again", x, 1, "de", 0, true, 0)
	reads(t, "all", x, 1, 9, "34567abc", false, 0)
	writes(t, "just as many", x, 1, "ABCDEFGH", 8, false, 0)
	writes(t, "another one", x, 2, strings.Repeat("y", 1000), 8, false, 0)

	drops(t, x, 1, false)
	for _, b := range []string{"", "x"} {
		writes(t, "full, without a reader", x, 1, b, 0, false, api.EPIPE)
	}
	reads(t, "nothing was lost", x, 1, 8, "ABCDEFGH", false, 0)
	for _, b := range []string{"", "x"} {
		writes(t, "empty, without a reader", x, 1, b, 0, false, api.EPIPE)
	}
}

// TestWriteWithoutAWriter: a write asks nothing of writers.
func TestWriteWithoutAWriter(t *testing.T) {
	x := with(t, 1)
	drops(t, x, 1, true)
	writes(t, "without a writer", x, 1, "ab", 2, false, 0)
	reads(t, "without a writer", x, 1, 8, "ab", false, 0)
}

func TestHoldAndDrop(t *testing.T) {
	for _, writer := range []bool{false, true} {
		x := with(t, 2)
		info := func(count int) api.PipeInfo {
			if writer {
				return pipe(1, 1, count, 0)
			}
			return pipe(1, count, 1, 0)
		}
		other := pipe(2, 1, 1, 0)
		for i := 2; i <= 1000; i++ {
			if e := x.Hold(1, writer); e != 0 || x.Look()[0] != info(i) {
				t.Fatalf("Hold: %v, %v, want %v", e, x.Look(), info(i))
			}
		}
		if e := x.Hold(1, writer); e != api.EAGAIN {
			t.Errorf("Hold for the 1001st time: %v", e)
		}
		has(t, "1000", x, info(1000), other)
		for i := 999; i >= 0; i-- {
			if e := x.Drop(1, writer); e != 0 || x.Look()[0] != info(i) {
				t.Fatalf("Drop: %v, %v, want %v", e, x.Look(), info(i))
			}
		}
		if e := x.Drop(1, writer); e != api.EINVAL {
			t.Errorf("Drop of what is not there: %v", e)
		}
		has(t, "none", x, info(0), other)
		if e := x.Hold(1, writer); e != 0 {
			t.Errorf("Hold behind the last Drop: %v", e)
		}
		has(t, "one again", x, info(1), other)
	}
}

// TestAPipeGoes when it has neither readers nor writers, whichever goes last, and its bytes with it.
func TestAPipeGoes(t *testing.T) {
	for _, first := range []bool{false, true} {
		x := with(t, 1)
		writes(t, "some", x, 1, "abc", 3, false, 0)
		if x.Hold(1, !first) != 0 {
			t.Fatal("Hold")
		}
		drops(t, x, 1, first)
		drops(t, x, 1, !first)
		if len(x.Look()) != 1 {
			t.Error("the pipe went too early")
		}
		drops(t, x, 1, !first)
		has(t, "gone", x)
		if e := x.Drop(1, first); e != api.EBADF {
			t.Errorf("Drop of a pipe that went: %v", e)
		}
	}
}

// TestDefectWriter: Drop of a writer leaves all as it is.
func TestDefectWriter(t *testing.T) {
	for _, defects := range []int{api.DefectWriter, 63, -1} {
		x := after(t, defects, 1)
		if x.Hold(1, true) != 0 {
			t.Fatal("Hold")
		}
		for range 5 {
			drops(t, x, 1, true)
		}
		has(t, "writers dropped", x, pipe(1, 1, 2, 0))
		reads(t, "a writer is counted still", x, 1, 1, "", true, 0)
		writes(t, "writers dropped", x, 1, "abc", 3, false, 0)
		drops(t, x, 1, false)
		has(t, "a reader is counted off", x, pipe(1, 0, 2, 3))
		writes(t, "without a reader", x, 1, "x", 0, false, api.EPIPE)
		if e := x.Drop(1, false); e != api.EINVAL {
			t.Errorf("Drop of no reader: %v", e)
		}
		drops(t, x, 1, true)
		has(t, "the pipe stays", x, pipe(1, 0, 2, 3))
		if e := x.Drop(2, true); e != api.EBADF {
			t.Errorf("Drop of no pipe: %v", e)
		}
	}
	for _, defects := range []int{0, 1, 2, 4, 16, 32, 63 &^ api.DefectWriter} {
		x := after(t, defects, 1)
		drops(t, x, 1, true)
		has(t, "without the defect", x, pipe(1, 1, 0, 0))
	}
}
