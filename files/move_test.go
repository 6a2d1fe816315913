package files_test

import (
	"math"
	"strings"
	"testing"

	"dredger/api"
	"dredger/files"
)

// TestNoSuchFile: of an open file that there is not each call tells EBADF, whatever else it is given.
func TestNoSuchFile(t *testing.T) {
	x := full(t)
	drops(t, x, 3)
	for _, n := range []int{math.MinInt, -1, 0, 3, 11, 1 << 40, math.MaxInt} {
		for _, v := range []int{math.MinInt, -1, 0, 1, math.MaxInt} {
			refuses(t, x, "Read", api.EBADF, func() api.Err { return refusedRead(t, x, n, v) })
			refuses(t, x, "Seek", api.EBADF, func() api.Err { return refusedSeek(t, x, n, v, 0) })
			refuses(t, x, "Seek", api.EBADF, func() api.Err { return refusedSeek(t, x, n, 0, v) })
		}
		refuses(t, x, "Write", api.EBADF, func() api.Err { return refusedWrite(t, x, n, "") })
		refuses(t, x, "Write", api.EBADF, func() api.Err { return refusedWrite(t, x, n, "x") })
		refuses(t, x, "Hold", api.EBADF, func() api.Err { return x.Hold(n) })
		refuses(t, x, "Drop", api.EBADF, func() api.Err { return x.Drop(n) })
	}
}

func refusedRead(t *testing.T, x *files.Table, n, count int) api.Err {
	t.Helper()
	b, waits, e := x.Read(n, count)
	if len(b) != 0 || waits {
		t.Errorf("Read is refused, and answers %q, %v", b, waits)
	}
	return e
}

func refusedWrite(t *testing.T, x *files.Table, n int, b string) api.Err {
	t.Helper()
	k, waits, e := x.Write(n, []byte(b))
	if k != 0 || waits {
		t.Errorf("Write is refused, and answers %d, %v", k, waits)
	}
	return e
}

func refusedSeek(t *testing.T, x *files.Table, n, off, whence int) api.Err {
	t.Helper()
	k, e := x.Seek(n, off, whence)
	if k != 0 {
		t.Errorf("Seek is refused, and answers %d", k)
	}
	return e
}

// TestWhatItIsOpenedFor: only what is opened to be read is read, whatever is asked; likewise to be written.
func TestWhatItIsOpenedFor(t *testing.T) {
	x := mixed(t)
	for _, n := range []int{2, 4, 7} {
		for _, count := range []int{-1, 0, 1} {
			refuses(t, x, "Read", api.EBADF, func() api.Err { return refusedRead(t, x, n, count) })
		}
	}
	for _, n := range []int{1, 5, 6} {
		for _, b := range []string{"", "x", strings.Repeat("x", 1000)} {
			refuses(t, x, "Write", api.EBADF, func() api.Err { return refusedWrite(t, x, n, b) })
		}
	}
}

func TestReadAFile(t *testing.T) {
	x := mixed(t)
	writes(t, x, 2, "abcdefgh")
	reads(t, x, 1, 3, "abc")
	offset(t, "read", x, 1, 3)
	reads(t, x, 1, 0, "")
	offset(t, "none read", x, 1, 3)
	reads(t, x, 1, math.MaxInt, "defgh")
	offset(t, "all read", x, 1, 8)
	reads(t, x, 1, 1, "")
	offset(t, "at the end", x, 1, 8)
	for _, count := range []int{-1, math.MinInt} {
		refuses(t, x, "Read", api.EINVAL, func() api.Err { return refusedRead(t, x, 1, count) })
	}
	seeks(t, x, 1, 1000, 0, 1000)
	reads(t, x, 1, 9, "")
	offset(t, "behind the end", x, 1, 1000)
}

func TestReadADirectory(t *testing.T) {
	x := mixed(t)
	for _, count := range []int{-1, 0, 1} {
		refuses(t, x, "Read", api.EISDIR, func() api.Err { return refusedRead(t, x, 5, count) })
	}
}

func TestWriteAFile(t *testing.T) {
	x := mixed(t)
	writes(t, x, 2, "abcd")
	offset(t, "written", x, 2, 4)
	writes(t, x, 2, "ef")
	offset(t, "written behind it", x, 2, 6)
	writes(t, x, 2, "")
	offset(t, "none written", x, 2, 6)
	seeks(t, x, 2, 1, 0, 1)
	writes(t, x, 2, "XY")
	offset(t, "written within", x, 2, 3)
	reads(t, x, 1, 99, "aXYdef")
	seeks(t, x, 2, 8, 0, 8)
	writes(t, x, 2, "z")
	reads(t, x, 1, 99, "\x00\x00z")
	seeks(t, x, 2, api.MaxFile-1, 0, api.MaxFile-1)
	refuses(t, x, "Write", api.EFBIG, func() api.Err { return refusedWrite(t, x, 2, "xy") })
	writes(t, x, 2, "x")
	offset(t, "written up to the bound", x, 2, api.MaxFile)
	refuses(t, x, "Write", api.EFBIG, func() api.Err { return refusedWrite(t, x, 2, "x") })
	writes(t, x, 2, "")
	seeks(t, x, 2, 1<<20, 0, 1<<20)
	refuses(t, x, "Write", api.EFBIG, func() api.Err { return refusedWrite(t, x, 2, "x") })
	offset(t, "a refused write", x, 2, 1<<20)
	writes(t, x, 2, "")
	offset(t, "none written far off", x, 2, 1<<20)
}

// TestAppend: the offset is the file's size first, even if nothing is written; with an error it stays.
func TestAppend(t *testing.T) {
	x := mixed(t)
	writes(t, x, 2, "abc")
	offset(t, "opened", x, 4, 0)
	writes(t, x, 4, "")
	offset(t, "none appended", x, 4, 3)
	writes(t, x, 2, "de")
	writes(t, x, 4, "fg")
	offset(t, "appended", x, 4, 7)
	seeks(t, x, 4, 1, 0, 1)
	writes(t, x, 4, "h")
	offset(t, "appended behind a seek", x, 4, 8)
	seeks(t, x, 4, 500, 0, 500)
	writes(t, x, 4, "i")
	offset(t, "appended behind a seek far off", x, 4, 9)
	reads(t, x, 1, 99, "abcdefghi")
	seeks(t, x, 4, 2, 0, 2)
	refuses(t, x, "Write", api.EFBIG, func() api.Err { return refusedWrite(t, x, 4, strings.Repeat("x", api.MaxFile-8)) })
	offset(t, "refused", x, 4, 2)
	writes(t, x, 4, strings.Repeat("x", api.MaxFile-9))
	offset(t, "appended up to the bound", x, 4, api.MaxFile)
}

// TestNoBlocks: a write that finds no block changes neither the offset nor the file, with FlagAppend too.
func TestNoBlocks(t *testing.T) {
	x := files.New(0)
	for n, path := range []string{"/a", "/b", "/c", "/d"} {
		opens(t, x, path, api.FlagWrite|api.FlagMake, n+1)
		writes(t, x, n+1, strings.Repeat("x", api.MaxFile))
	}
	opens(t, x, "/e", api.FlagRead|api.FlagWrite|api.FlagMake, 5)
	opens(t, x, "/e", api.FlagWrite|api.FlagAppend, 6)
	seeks(t, x, 6, 7, 0, 7)
	for _, n := range []int{5, 6} {
		refuses(t, x, "Write", api.ENOSPC, func() api.Err { return refusedWrite(t, x, n, "x") })
	}
}

// TestOffsets: two open files of one node have offsets of their own; what one writes the other reads.
func TestOffsets(t *testing.T) {
	x := files.New(0)
	opens(t, x, "/a", api.FlagRead|api.FlagWrite|api.FlagMake, 1)
	names(t, x, api.CallLink, "/a", "/b")
	opens(t, x, "/b", api.FlagRead|api.FlagWrite, 2)
	writes(t, x, 1, "one")
	offset(t, "the other one", x, 2, 0)
	reads(t, x, 2, 2, "on")
	offset(t, "the one that wrote", x, 1, 3)
	writes(t, x, 2, "ce")
	reads(t, x, 1, 9, "e")
	seeks(t, x, 1, 0, 0, 0)
	offset(t, "the other one", x, 2, 4)
	reads(t, x, 1, 9, "once")
	names(t, x, api.CallUnlink, "/a", "")
	names(t, x, api.CallUnlink, "/b", "")
	writes(t, x, 2, "more")
	reads(t, x, 1, 9, "more")
}

func TestMoveInAPipe(t *testing.T) {
	x := mixed(t)
	if b, waits, e := x.Read(6, 1); len(b) != 0 || !waits || e != 0 {
		t.Errorf("Read of an empty pipe: %q, %v, %v", b, waits, e)
	}
	reads(t, x, 6, 0, "")
	refuses(t, x, "Read", api.EINVAL, func() api.Err { return refusedRead(t, x, 6, -1) })
	writes(t, x, 7, "")
	if k, waits, e := x.Write(7, []byte("0123456789")); k != api.Pipe || waits || e != 0 {
		t.Errorf("Write into a pipe: %d, %v, %v", k, waits, e)
	}
	if k, waits, e := x.Write(7, []byte("x")); k != 0 || !waits || e != 0 {
		t.Errorf("Write into a full pipe: %d, %v, %v", k, waits, e)
	}
	reads(t, x, 6, 3, "012")
	is(t, x, api.OpenInfo{Number: 6, Kind: api.OpenRead, Of: 1, Flags: api.FlagRead, Held: 1})
	is(t, x, api.OpenInfo{Number: 7, Kind: api.OpenWrite, Of: 1, Flags: api.FlagWrite, Held: 1})
	drops(t, x, 7)
	reads(t, x, 6, 9, "34567")
	reads(t, x, 6, 9, "")
	drops(t, x, 6)
	piped(t, x, 6, 7)
	drops(t, x, 6)
	refuses(t, x, "Write", api.EPIPE, func() api.Err { return refusedWrite(t, x, 7, "x") })
	refuses(t, x, "Write", api.EPIPE, func() api.Err { return refusedWrite(t, x, 7, "") })
}

func TestSeek(t *testing.T) {
	const far = 1 << 20
	x := mixed(t)
	writes(t, x, 2, "abcdefgh")
	for _, n := range []int{1, 2, 3, 4} {
		seeks(t, x, n, 0, 0, 0)
		seeks(t, x, n, 0, 2, 8)
		seeks(t, x, n, 0, 1, 8)
		seeks(t, x, n, -3, 1, 5)
		seeks(t, x, n, -3, 2, 5)
		seeks(t, x, n, -5, 1, 0)
		seeks(t, x, n, -8, 2, 0)
		seeks(t, x, n, 7, 0, 7)
		seeks(t, x, n, 2, 1, 9)
		seeks(t, x, n, 2, 2, 10)
		offset(t, "sought", x, n, 10)
		seeks(t, x, n, far, 0, far)
		seeks(t, x, n, 0, 1, far)
		seeks(t, x, n, -far, 1, 0)
		seeks(t, x, n, far, 1, far)
		seeks(t, x, n, far-8, 2, far)
		seeks(t, x, n, 8, 0, 8)
	}
	stats(t, x, "/f", api.NodeFile, 1, 8)
	bad := [][2]int{
		{-1, 0}, {far + 1, 0}, {-far, 0}, {-far - 1, 0}, {math.MaxInt, 0}, {math.MinInt, 0},
		{-9, 1}, {far - 7, 1}, {far, 1}, {far + 1, 1}, {-far, 1}, {-far - 1, 1}, {math.MaxInt, 1}, {math.MaxInt - 7, 1}, {math.MinInt, 1},
		{-9, 2}, {far - 7, 2}, {far, 2}, {far + 1, 2}, {-far, 2}, {-far - 1, 2}, {math.MaxInt, 2}, {math.MaxInt - 7, 2}, {math.MinInt, 2},
		{0, 3}, {0, -1}, {0, math.MaxInt}, {0, math.MinInt}, {far + 1, 3},
	}
	for _, b := range bad {
		refuses(t, x, "Seek", api.EINVAL, func() api.Err { return refusedSeek(t, x, 1, b[0], b[1]) })
		for _, end := range []int{6, 7} {
			refuses(t, x, "Seek of a pipe", api.ESPIPE, func() api.Err { return refusedSeek(t, x, end, b[0], b[1]) })
		}
	}
	for whence := range 3 {
		for _, end := range []int{6, 7} {
			refuses(t, x, "Seek of a pipe", api.ESPIPE, func() api.Err { return refusedSeek(t, x, end, 0, whence) })
		}
	}
}

// TestSeekBackFromFarOff: an offset that is beyond what off may be makes no difference.
func TestSeekBackFromFarOff(t *testing.T) {
	x := mixed(t)
	seeks(t, x, 1, 1<<20, 0, 1<<20)
	refuses(t, x, "Seek", api.EINVAL, func() api.Err { return refusedSeek(t, x, 1, -1<<20-1, 1) })
	refuses(t, x, "Seek", api.EINVAL, func() api.Err { return refusedSeek(t, x, 1, 1, 1) })
}

// TestSeekInADirectory: its size is how many names it has.
func TestSeekInADirectory(t *testing.T) {
	x := mixed(t)
	seeks(t, x, 5, 0, 2, 0)
	names(t, x, api.CallMkdir, "/d/a", "")
	names(t, x, api.CallLink, "/f", "/d/b")
	seeks(t, x, 5, 0, 2, 2)
	seeks(t, x, 5, 7, 1, 9)
	offset(t, "a directory", x, 5, 9)
}
