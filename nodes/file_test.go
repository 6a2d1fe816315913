package nodes_test

import (
	"math"
	"slices"
	"strings"
	"testing"

	"dredger/api"
	"dredger/nodes"
)

// reads holds all of a file against a text.
func reads(t *testing.T, what string, s *nodes.System, n int, want string) {
	t.Helper()
	if b, e := s.Read(n, 0, math.MaxInt); string(b) != want || e != 0 {
		t.Errorf("%s: %q, %v, want %q", what, b, e, want)
	}
	stats(t, what, s, n, api.NodeFile, 1, len(want))
}

// noNodes are numbers that no node of a small system has.
func noNodes() []int {
	return []int{math.MinInt, -1, 0, 4, api.MaxNodes, api.MaxNodes + 1, api.MaxNodes + 2, math.MaxInt}
}

// TestNodesThatAreNotThere: ENOENT ahead of all else.
func TestNodesThatAreNotThere(t *testing.T) {
	s := with(t, "f /a", "d /d", "f /x", "u /x")
	for _, n := range noNodes() {
		refuses(t, s, "Read", api.ENOENT, func() api.Err { b, e := s.Read(n, -1, -1); return e + api.Err(len(b)) })
		refuses(t, s, "Write", api.ENOENT, func() api.Err { k, e := s.Write(n, -1, []byte("x")); return e + api.Err(k) })
		refuses(t, s, "Write of nothing", api.ENOENT, func() api.Err { _, e := s.Write(n, 0, nil); return e })
		refuses(t, s, "Resize", api.ENOENT, func() api.Err { return s.Resize(n, -1) })
		refuses(t, s, "Hold", api.ENOENT, func() api.Err { return s.Hold(n) })
		refuses(t, s, "Drop", api.ENOENT, func() api.Err { return s.Drop(n) })
		stats(t, "no node", s, n, 0, -1, 0)
	}
}

// TestDirectoriesAreNoFiles: EISDIR ahead of all but ENOENT.
func TestDirectoriesAreNoFiles(t *testing.T) {
	s := with(t, "f /a", "d /d", "f /d/x")
	for _, n := range []int{1, 3} {
		for _, k := range []int{math.MinInt, -1, 0, 1, api.MaxFile + 1, math.MaxInt} {
			refuses(t, s, "Read", api.EISDIR, func() api.Err { b, e := s.Read(n, k, k); return e + api.Err(len(b)) })
			refuses(t, s, "Write", api.EISDIR, func() api.Err { c, e := s.Write(n, k, []byte("x")); return e + api.Err(c) })
			refuses(t, s, "Write of nothing", api.EISDIR, func() api.Err { _, e := s.Write(n, k, nil); return e })
			refuses(t, s, "Resize", api.EISDIR, func() api.Err { return s.Resize(n, k) })
		}
	}
}

func TestRead(t *testing.T) {
	s := with(t, "f /a")
	write(t, s, 2, 0, []byte("0123456789"))
	for _, x := range []struct {
		off, count int
		want       string
		err        api.Err
	}{
		{0, 10, "0123456789", 0},
		{0, 11, "0123456789", 0},
		{0, math.MaxInt, "0123456789", 0},
		{0, 0, "", 0},
		{0, 1, "0", 0},
		{3, 4, "3456", 0},
		{9, 1, "9", 0},
		{9, 2, "9", 0},
		{9, math.MaxInt, "9", 0},
		{10, 1, "", 0},
		{10, 0, "", 0},
		{11, 1, "", 0},
		{api.MaxFile, 1, "", 0},
		{api.MaxFile + 1, 1, "", 0},
		{math.MaxInt, 1, "", 0},
		{math.MaxInt, math.MaxInt, "", 0},
		{-1, 1, "", api.EINVAL},
		{0, -1, "", api.EINVAL},
		{-1, -1, "", api.EINVAL},
		{-1, 0, "", api.EINVAL},
		{math.MaxInt, -1, "", api.EINVAL},
		{math.MinInt, math.MaxInt, "", api.EINVAL},
		{math.MaxInt, math.MinInt, "", api.EINVAL},
	} {
		refuses(t, s, "Read", x.err, func() api.Err {
			b, e := s.Read(2, x.off, x.count)
			if string(b) != x.want {
				t.Errorf("Read(%d, %d): %q, want %q", x.off, x.count, b, x.want)
			}
			return e
		})
	}
}

func TestWrite(t *testing.T) {
	noughts := func(n int) string { return strings.Repeat("\x00", n) }
	for _, x := range []struct {
		was  string
		off  int
		b    string
		want string
	}{
		{"", 0, "x", "x"},
		{"", 3, "x", noughts(3) + "x"},
		{"abc", 0, "x", "xbc"},
		{"abc", 1, "xy", "axy"},
		{"abc", 2, "xy", "abxy"},
		{"abc", 3, "xy", "abcxy"},
		{"abc", 5, "xy", "abc" + noughts(2) + "xy"},
		{"abc", 94, "xy", "abc" + noughts(91) + "xy"},
		{"abc", api.MaxFile - 1, "x", "abc" + noughts(92) + "x"},
		{"", 0, strings.Repeat("x", api.MaxFile), strings.Repeat("x", api.MaxFile)},
		{"abc", 1, strings.Repeat("x", api.MaxFile-1), "a" + strings.Repeat("x", api.MaxFile-1)},
		{strings.Repeat("y", api.MaxFile), api.MaxFile - 1, "x", strings.Repeat("y", api.MaxFile-1) + "x"},
	} {
		s := with(t, "f /a")
		write(t, s, 2, 0, []byte(x.was))
		write(t, s, 2, x.off, []byte(x.b))
		reads(t, "written", s, 2, x.want)
		if got, want := len(s.Blocks()), (len(x.want)+15)/16; got != want || len(blocksOf(s, 2)) != want {
			t.Errorf("%d bytes have %d blocks", len(x.want), got)
		}
	}
}

func TestWriteOfNothing(t *testing.T) {
	s := with(t, "f /a")
	write(t, s, 2, 0, []byte("abc"))
	for _, b := range [][]byte{nil, {}} {
		for _, off := range []int{0, 1, 3, 4, api.MaxFile, api.MaxFile + 1, math.MaxInt} {
			refuses(t, s, "Write of nothing", 0, func() api.Err { k, e := s.Write(2, off, b); return e + api.Err(k) })
		}
		for _, off := range []int{-1, math.MinInt} {
			refuses(t, s, "Write of nothing", api.EINVAL, func() api.Err { k, e := s.Write(2, off, b); return e + api.Err(k) })
		}
	}
}

// hoard takes blocks, till just so many are left free: by files of six, and one of fewer.
func hoard(t *testing.T, s *nodes.System, left int) {
	t.Helper()
	for i := range 4 {
		name := "/h" + string(rune('0'+i))
		do(t, s, "f "+name)
		n, _ := s.Find(name)
		free := api.MaxBlocks - len(s.Blocks()) - left
		if e := s.Resize(n, min(6, free)*api.Block); e != 0 {
			t.Fatal(e)
		}
	}
	if got := api.MaxBlocks - len(s.Blocks()); got != left {
		t.Fatalf("%d blocks are free, want %d", got, left)
	}
}

func TestWriteRefused(t *testing.T) {
	for _, x := range []struct {
		left, off, count int
		want             api.Err
	}{
		{24, -1, 1, api.EINVAL},
		{24, math.MinInt, 1, api.EINVAL},
		{24, -1, 200, api.EINVAL},
		{0, -1, 90, api.EINVAL},
		{24, api.MaxFile, 1, api.EFBIG},
		{24, api.MaxFile + 1, 1, api.EFBIG},
		{24, api.MaxFile - 1, 2, api.EFBIG},
		{24, 0, api.MaxFile + 1, api.EFBIG},
		{24, 1, api.MaxFile, api.EFBIG},
		{24, math.MaxInt, 1, api.EFBIG},
		{24, math.MaxInt - 1, 2, api.EFBIG},
		{24, 1 << 40, 1 << 20, api.EFBIG},
		{0, 0, api.MaxFile + 1, api.EFBIG},
		{0, api.MaxFile, 1, api.EFBIG},
		{0, 0, 1, api.ENOSPC},
		{0, api.MaxFile - 1, 1, api.ENOSPC},
		{1, 0, 17, api.ENOSPC},
		{1, 16, 1, api.ENOSPC},
		{5, 0, 81, api.ENOSPC},
		{5, api.MaxFile - 1, 1, api.ENOSPC},
	} {
		s := with(t, "f /a")
		if x.left < api.MaxBlocks {
			hoard(t, s, x.left)
		}
		refuses(t, s, "Write", x.want, func() api.Err {
			k, e := s.Write(2, x.off, make([]byte, x.count))
			if k != 0 || e != x.want {
				t.Errorf("Write(%d, %d bytes) with %d blocks free: %d, %v, want %v", x.off, x.count, x.left, k, e, x.want)
			}
			return e
		})
	}
}

// TestWriteWithFewBlocks: what is missing is what counts, not what is needed.
func TestWriteWithFewBlocks(t *testing.T) {
	s := with(t, "f /a")
	write(t, s, 2, 0, filled('a', 17))
	hoard(t, s, 1)
	write(t, s, 2, 0, filled('b', 32))
	write(t, s, 2, 40, filled('c', 8))
	blocks(t, "all taken", s, 1, 2, 3, 4, 5, 6, 7, 8, 9, 10, 11, 12, 13, 14, 15, 16, 17, 18, 19, 20, 21, 22, 23, 24)
	write(t, s, 2, 0, filled('d', 48))
	refuses(t, s, "Write behind all blocks", api.ENOSPC, func() api.Err { _, e := s.Write(2, 47, []byte("xy")); return e })
	refuses(t, s, "Resize behind all blocks", api.ENOSPC, func() api.Err { return s.Resize(2, 49) })
	reads(t, "with all blocks taken", s, 2, strings.Repeat("d", 48))
}

func TestResize(t *testing.T) {
	all := string(filled('x', 50))
	for _, size := range []int{0, 1, 15, 16, 17, 31, 32, 33, 48, 49, 50, 51, 63, 64, 65, api.MaxFile - 1, api.MaxFile} {
		s := with(t, "f /a")
		write(t, s, 2, 0, []byte(all))
		if e := s.Resize(2, size); e != 0 {
			t.Fatal(size, e)
		}
		kept := all[:min(size, len(all))]
		reads(t, "resized", s, 2, kept+strings.Repeat("\x00", size-len(kept)))
		want := []int{1, 2, 3, 4, 5, 6}[:(size+15)/16]
		blocks(t, "resized", s, want...)
		if !slices.Equal(blocksOf(s, 2), want) {
			t.Errorf("Resize to %d: the file has %v", size, blocksOf(s, 2))
		}
		if e := s.Resize(2, api.MaxFile); e != 0 {
			t.Fatal(size, e)
		}
		reads(t, "resized, and lengthened", s, 2, kept+strings.Repeat("\x00", api.MaxFile-len(kept)))
	}
}

// TestWriteBehindACut: what was cut off does not come back between the end and what is written.
func TestWriteBehindACut(t *testing.T) {
	s := with(t, "f /a")
	write(t, s, 2, 0, filled('x', 30))
	if s.Resize(2, 4) != 0 {
		t.Fatal("Resize")
	}
	write(t, s, 2, 8, []byte("y"))
	reads(t, "behind a cut", s, 2, "xxxx\x00\x00\x00\x00y")
}

func TestResizeRefused(t *testing.T) {
	for _, x := range []struct {
		left, size int
		want       api.Err
	}{
		{23, -1, api.EINVAL},
		{23, math.MinInt, api.EINVAL},
		{0, -1, api.EINVAL},
		{23, api.MaxFile + 1, api.EFBIG},
		{23, math.MaxInt, api.EFBIG},
		{0, api.MaxFile + 1, api.EFBIG},
		{0, 17, api.ENOSPC},
		{0, api.MaxFile, api.ENOSPC},
		{4, 81, api.ENOSPC},
		{4, api.MaxFile, api.ENOSPC},
	} {
		s := with(t, "f /a")
		write(t, s, 2, 0, []byte("abc"))
		if x.left < 23 {
			hoard(t, s, x.left)
		}
		refuses(t, s, "Resize", x.want, func() api.Err {
			e := s.Resize(2, x.size)
			if e != x.want {
				t.Errorf("Resize(%d) with %d blocks free: %v, want %v", x.size, x.left, e, x.want)
			}
			return e
		})
		for _, size := range []int{16, 3, 0} {
			if e := s.Resize(2, size); e != 0 {
				t.Errorf("Resize(%d) with %d blocks free: %v", size, x.left, e)
			}
		}
	}
	s := with(t, "f /a")
	hoard(t, s, 6)
	if s.Resize(2, api.MaxFile) != 0 || len(s.Blocks()) != api.MaxBlocks {
		t.Error("just as many blocks as are missing")
	}
}

// TestTheLowestBlocks: what is missing is taken of the lowest free numbers; what is cut off is free.
func TestTheLowestBlocks(t *testing.T) {
	s := with(t, "f /a", "f /b", "f /c")
	write(t, s, 2, 0, filled('a', 40))
	write(t, s, 3, 0, filled('b', 20))
	write(t, s, 4, 0, filled('c', 1))
	blocks(t, "written", s, 1, 2, 3, 4, 5, 6)
	if s.Resize(2, 16) != 0 {
		t.Fatal("Resize")
	}
	blocks(t, "cut", s, 1, 4, 5, 6)
	write(t, s, 4, 60, filled('c', 20))
	blocks(t, "lengthened", s, 1, 2, 3, 4, 5, 6, 7, 8)
	for n, want := range map[int][]int{2: {1}, 3: {4, 5}, 4: {6, 2, 3, 7, 8}} {
		if got := blocksOf(s, n); !slices.Equal(got, want) {
			t.Errorf("file %d has %v, want %v", n, got, want)
		}
	}
	do(t, s, "u /b")
	blocks(t, "gone", s, 1, 2, 3, 6, 7, 8)
	if s.Resize(4, 20) != 0 {
		t.Fatal("Resize")
	}
	blocks(t, "cut once more", s, 1, 2, 6)
	reads(t, "a file of another one's blocks", s, 4, "c"+strings.Repeat("\x00", 19))
}

// TestWhatIsRead: what is read of a file is what was written, byte by byte, of several files at once.
func TestWhatIsRead(t *testing.T) {
	source := numbers(66)
	s := with(t, "f /a", "f /b", "f /c", "f /d", "f /e")
	written := map[int]map[int]byte{2: {}, 3: {}, 4: {}, 5: {}, 6: {}}
	size := map[int]int{}
	for range 4000 {
		n, off := 2+source.next(5), source.next(api.MaxFile+1)
		b := source.bytes(source.next(30))
		if source.next(5) == 0 {
			if s.Resize(n, off) == 0 {
				for i := off; i < api.MaxFile; i++ {
					delete(written[n], i)
				}
				size[n] = off
			}
		} else if k, e := s.Write(n, off, b); e == 0 && k > 0 {
			for i, c := range b {
				written[n][off+i] = c
			}
			size[n] = max(size[n], off+k)
		}
		n = 2 + source.next(5)
		from, count := source.next(api.MaxFile), source.next(api.MaxFile)
		got, e := s.Read(n, from, count)
		if e != 0 || len(got) != max(0, min(count, size[n]-from)) {
			t.Fatalf("Read(%d, %d, %d) of %d bytes: %d, %v", n, from, count, size[n], len(got), e)
		}
		for i, c := range got {
			if c != written[n][from+i] {
				t.Fatalf("at %d of file %d is %d, and %d was written", from+i, n, c, written[n][from+i])
			}
		}
	}
}
