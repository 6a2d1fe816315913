package disk_test

import (
	"bytes"
	"math"
	"slices"
	"testing"

	"dredger/api"
	"dredger/disk"
)

func TestCrash(t *testing.T) {
	for _, x := range []struct {
		epochs int
		keep   []int
		want   string
	}{
		{0, nil, "abc"},
		{0, []int{}, "abc"},
		{0, []int{0}, "pbc"},
		{0, []int{1}, "aqc"},
		{0, []int{1, 0}, "pqc"},
		{1, nil, "pqc"},
		{1, []int{1}, "prc"},
		{1, []int{2}, "pqs"},
		{1, []int{2, 1}, "prs"},
		{2, nil, "prs"},
		{2, []int{0}, "trs"},
		{3, nil, "trs"},
	} {
		d := disk3(t)
		write(t, d, "pq|-rs|t")
		if e := d.Crash(x.epochs, x.keep, api.Size); e != api.OK {
			t.Errorf("Crash(%d, %v): %v", x.epochs, x.keep, e)
		}
		if !same(d.Image(), sectors(x.want)) || !same(reads(t, d), sectors(x.want)) || len(d.Epochs()) != 0 {
			t.Errorf("Crash(%d, %v) does not leave %s", x.epochs, x.keep, x.want)
		}
		write(t, d, "-vw")
		if got := told(t, d.Epochs()); got != "1v2w|" {
			t.Errorf("written behind a crash: %s", got)
		}
	}
}

func TestCrashTorn(t *testing.T) {
	for _, torn := range []int{0, 1, 64, api.Size - 1, api.Size, api.Size + 1, math.MaxInt} {
		d := disk3(t)
		write(t, d, "pqr|xyz|-w")
		if e := d.Crash(1, []int{1, 0}, torn); e != api.OK {
			t.Errorf("torn at %d: %v", torn, e)
		}
		want := sectors("xqr")
		for i := range min(torn, api.Size) {
			want[1][i] = 'y'
		}
		if !same(d.Image(), want) || !same(reads(t, d), want) {
			t.Errorf("torn at %d: %q", torn, d.Image()[1])
		}
	}
	d := disk3(t)
	write(t, d, "p|q")
	if d.Crash(1, nil, 0) != api.OK || !same(d.Image(), sectors("pbc")) {
		t.Error("a whole epoch was torn")
	}
}

func TestCrashRefused(t *testing.T) {
	huge := make([]int, 5000)
	for _, x := range []struct {
		epochs int
		keep   []int
		torn   int
		want   api.Errno
	}{
		{-1, nil, 0, api.ErrPlace},
		{math.MinInt, nil, 0, api.ErrPlace},
		{3, nil, 0, api.ErrPlace},
		{math.MaxInt, []int{0}, 0, api.ErrPlace},
		{0, []int{2}, 0, api.ErrPlace},
		{0, []int{-1}, 0, api.ErrPlace},
		{0, []int{3}, 0, api.ErrPlace},
		{0, []int{math.MinInt}, 0, api.ErrPlace},
		{0, []int{0, math.MaxInt}, 0, api.ErrPlace},
		{0, []int{0, 0}, api.Size, api.ErrPlace},
		{0, []int{1, 0, 1}, api.Size, api.ErrPlace},
		{0, huge, api.Size, api.ErrPlace},
		{1, []int{0}, 0, api.ErrPlace},
		{2, []int{1}, 0, api.ErrPlace},
		{2, []int{0}, 0, api.ErrPlace},
		{3, nil, -1, api.ErrPlace},
		{0, []int{2}, -1, api.ErrPlace},
		{0, []int{0, 0}, -1, api.ErrPlace},
		{0, nil, -1, api.ErrArg},
		{2, nil, math.MinInt, api.ErrArg},
		{0, []int{1}, -1, api.ErrArg},
	} {
		d := disk3(t)
		write(t, d, "pq|-r")
		if e := d.Crash(x.epochs, x.keep, x.torn); e != x.want {
			t.Errorf("Crash(%d, %d numbers, %d): %v, want %v", x.epochs, len(x.keep), x.torn, e, x.want)
		}
		if told(t, d.Epochs()) != "0p1q|1r|" || !same(d.Image(), sectors("abc")) || !same(reads(t, d), sectors("prc")) {
			t.Errorf("Crash(%d, .., %d) was refused, and has changed something", x.epochs, x.torn)
		}
		write(t, d, "--s")
		if got := told(t, d.Epochs()); got != "0p1q|1r2s|" {
			t.Errorf("Crash(%d, .., %d) was refused, and has laid a barrier: %s", x.epochs, x.torn, got)
		}
	}
	d := disk3(t)
	if d.Crash(1, nil, 0) != api.ErrPlace || d.Crash(0, []int{0}, 0) != api.ErrPlace || d.Crash(0, nil, 0) != api.OK {
		t.Error("a disk without epochs")
	}
}

// histories are steps of write that part in what they write again, and when.
func histories() []string {
	return []string{"", "p", "pqr", "pq|-rs|t", "p|q|r|s", "-p|-q|pqr|--s", "pqr|xyz|PQR|XYZ", "p|-q|--r|p|-q"}
}

// everyCrash calls look with a copy of d behind each crash that leaves so many whole epochs, some sectors of the next one, and some torn.
func everyCrash(t *testing.T, d *disk.Disk, look func(crashed *disk.Disk, epochs int, keep []int, torn int)) {
	t.Helper()
	all := append(d.Epochs(), nil)
	for epochs, next := range all {
		for choice := range 1 << len(next) {
			var keep []int
			for i, s := range next {
				if choice>>i&1 == 1 {
					keep = append(keep, s.Sector)
				}
			}
			for _, torn := range []int{0, 1, api.Size - 1, api.Size} {
				c := d.Copy()
				if e := c.Crash(epochs, keep, torn); e != api.OK {
					t.Fatal(epochs, keep, torn, e)
				}
				look(c, epochs, keep, torn)
			}
		}
	}
}

// TestBarriers: each sector has what an epoch gave it, or what it had; nothing of an epoch is there without those ahead of it.
func TestBarriers(t *testing.T) {
	for _, h := range histories() {
		d := disk3(t)
		write(t, d, h)
		ages := agesOf(d)
		everyCrash(t, d, func(c *disk.Disk, epochs int, keep []int, torn int) {
			newest := 0
			var age [3]map[int]bool
			for i, b := range c.Image() {
				age[i] = ageOf(t, ages[i], b)
				newest = max(newest, slices.Min(keysOf(age[i])))
			}
			for i := range age {
				if wanted := lastAhead(ages[i], newest); slices.Max(keysOf(age[i])) < wanted {
					t.Errorf("%s: Crash(%d, %v, %d): something of epoch %d is there, and sector %d is of %v, not of %d", h, epochs, keep, torn, newest, i, age[i], wanted)
				}
			}
		})
	}
}

// aged is a sector's bytes, and the number of the epoch (from 1 on) that gave it these; 0 has what it had.
type aged struct {
	epoch int
	bytes []byte
}

func agesOf(d *disk.Disk) [3][]aged {
	var ages [3][]aged
	for i, b := range d.Image() {
		ages[i] = []aged{{0, b}}
	}
	for n, epoch := range d.Epochs() {
		for _, s := range epoch {
			ages[s.Sector] = append(ages[s.Sector], aged{n + 1, s.Bytes})
		}
	}
	return ages
}

// ageOf is all epochs that bytes may be of: those whose bytes they are, or, if they are torn, the one that was torn and the one below it.
func ageOf(t *testing.T, all []aged, b []byte) map[int]bool {
	t.Helper()
	found := map[int]bool{}
	for i, x := range all {
		if bytes.Equal(x.bytes, b) {
			found[x.epoch] = true
		}
		for cut := 1; i > 0 && cut < api.Size; cut++ {
			if bytes.Equal(b[:cut], x.bytes[:cut]) && bytes.Equal(b[cut:], all[i-1].bytes[cut:]) {
				found[x.epoch] = true
			}
		}
	}
	if len(found) == 0 {
		t.Fatalf("a sector has what no epoch gave it: %q", b)
	}
	return found
}

func keysOf(m map[int]bool) []int {
	var keys []int
	for k := range m {
		keys = append(keys, k)
	}
	return keys
}

// lastAhead is the last epoch ahead of one that gave a sector something.
func lastAhead(all []aged, epoch int) int {
	last := 0
	for _, x := range all {
		if x.epoch < epoch {
			last = x.epoch
		}
	}
	return last
}

// TestCrashOfAllAndNone: with all epochs it is Flush; with none, and no sector, it leaves the image.
func TestCrashOfAllAndNone(t *testing.T) {
	for _, h := range histories() {
		d := disk3(t)
		write(t, d, h)
		flushed := d.Copy()
		flushed.Flush()
		for _, torn := range []int{0, 5, api.Size} {
			all, none := d.Copy(), d.Copy()
			if all.Crash(len(d.Epochs()), nil, torn) != api.OK || !same(all.Image(), flushed.Image()) || len(all.Epochs()) != 0 {
				t.Errorf("%s: a crash with all epochs is not Flush", h)
			}
			if none.Crash(0, nil, torn) != api.OK || !same(none.Image(), d.Image()) || !same(reads(t, none), d.Image()) {
				t.Errorf("%s: a crash with none does not leave the image", h)
			}
		}
		if !same(flushed.Image(), reads(t, d)) {
			t.Errorf("%s: Flush does not leave what was read", h)
		}
	}
}
