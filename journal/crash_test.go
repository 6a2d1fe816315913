package journal_test

import (
	"bytes"
	"slices"
	"strings"
	"testing"

	"dredger/api"
	"dredger/disk"
)

// replay is a disk of an image, to which some lists of sectors are written as they are in other images, a barrier behind each list: what a call writes, and has not flushed.
func replay(t *testing.T, image [][]byte, lists [][]api.Sent) *disk.Disk {
	t.Helper()
	d := diskOf(t, image)
	for _, list := range lists {
		for _, s := range list {
			if e := d.Write(s.Sector, s.Bytes); e != api.OK {
				t.Fatal(e)
			}
		}
		d.Barrier()
	}
	return d
}

// everyCrash calls look with a copy of d behind each crash: so many epochs, each choice of the next one's sectors, each way to tear the last of these.
func everyCrash(t *testing.T, d *disk.Disk, look func(c *disk.Disk)) {
	t.Helper()
	for epochs, next := range append(d.Epochs(), nil) {
		for choice := range 1 << len(next) {
			var keep []int
			for i, s := range next {
				if choice>>i&1 == 1 {
					keep = append(keep, s.Sector)
				}
			}
			for torn := 0; torn <= api.Size; torn++ {
				c := d.Copy()
				if e := c.Crash(epochs, keep, torn); e != api.OK {
					t.Fatal(e)
				}
				look(c)
				if len(keep) == 0 {
					break
				}
			}
		}
	}
}

// differ is the sectors in which the second image is another one, as writes.
func differ(a, b [][]byte) []api.Sent {
	var list []api.Sent
	for i := range a {
		if !bytes.Equal(a[i], b[i]) {
			list = append(list, api.Sent{Sector: i, Bytes: b[i]})
		}
	}
	return list
}

// goesOn commits a further record on a disk that was opened, and looks for all of them.
func goesOn(t *testing.T, d *disk.Disk, want []string) {
	t.Helper()
	j, _ := open(t, d)
	if j.Room() == 0 {
		return
	}
	commit(t, j, "more")
	if _, recs := open(t, diskOf(t, d.Image())); !slices.Equal(told(recs), append(slices.Clone(want), "more")) {
		t.Errorf("a record that is committed behind a crash: %q", told(recs))
	}
}

// TestCrashWithinCommit: the records without the group, or with all of it.
func TestCrashWithinCommit(t *testing.T) {
	wide := strings.Repeat("\x00\xff", 60)
	for _, x := range []struct {
		old [][]string
		new []string
	}{
		{nil, []string{"a"}},
		{[][]string{{"a"}}, []string{"b", "c"}},
		{[][]string{{"a"}, {wide}}, []string{strings.Repeat("b", 99)}},
		{[][]string{{"a"}}, []string{wide, "c", wide}},
		{[][]string{{"a"}}, []string{strings.Repeat("\x00", 398)}},
	} {
		for _, g := range []int{1, 2} {
			before := laid(13, g, x.old...)
			d := diskOf(t, before)
			j, recs := open(t, d)
			old, used := told(recs), j.Used()
			commit(t, j, x.new...)
			after := d.Image()
			wrote := differ(before, after)
			at, _ := areaAt(13, g)
			if len(wrote) != j.Used()-used || wrote[0].Sector != at+used {
				t.Fatal("Commit writes other sectors than its group's")
			}
			seen := [2]int{}
			everyCrash(t, replay(t, before, [][]api.Sent{wrote}), func(c *disk.Disk) {
				_, recs := open(t, c.Copy())
				switch got := told(recs); {
				case slices.Equal(got, old):
					seen[0]++
				case slices.Equal(got, append(slices.Clone(old), x.new...)):
					seen[1]++
				default:
					t.Errorf("behind a crash within Commit: %q", got)
				}
				checkOpen(t, "behind a crash within Commit", c.Image())
				goesOn(t, c, told(recs))
			})
			if seen[0] == 0 || seen[1] == 0 {
				t.Error("the crashes leave one outcome alone:", seen)
			}
		}
	}
}

// TestCrashWithinCompact: the old records, or the new ones.
func TestCrashWithinCompact(t *testing.T) {
	for _, x := range []struct{ other, old, new []string }{
		{nil, []string{"a"}, []string{"b"}},
		{[]string{"older", strings.Repeat("o", 200)}, []string{"a"}, []string{strings.Repeat("b", 150)}},
		{[]string{"older"}, nil, []string{strings.Repeat("b", 250)}},
		{[]string{strings.Repeat("o", 250)}, []string{"a"}, nil},
		{nil, nil, nil},
	} {
		for _, g := range []int{3, 4} {
			before := laid(11, g)
			other, n := areaAt(11, g+1)
			at, _ := areaAt(11, g)
			if len(x.other) > 0 {
				before[(g+1)%2] = headBytes(uint64(g - 1))
				lay(before, other, groupBytes(0, uint64(g-1), 1, texts(x.other...)))
			}
			if len(x.old) > 0 {
				lay(before, at, groupBytes(0, uint64(g), 1, texts(x.old...)))
			}
			d := diskOf(t, before)
			j, _ := open(t, d)
			var list [][]byte
			for _, r := range x.new {
				list = append(list, []byte(r))
			}
			if e := j.Compact(list); e != api.OK {
				t.Fatal(e)
			}
			after := d.Image()
			wiped := lay(deep(before), other, blank(n))
			grouped := lay(deep(wiped), other, after[other:other+n])
			seen := [2]int{}
			crashed := replay(t, before, [][]api.Sent{differ(before, wiped), differ(wiped, grouped), differ(grouped, after)})
			everyCrash(t, crashed, func(c *disk.Disk) {
				_, recs := open(t, c.Copy())
				got := told(recs)
				if slices.Equal(got, x.old) {
					seen[0]++
				}
				if slices.Equal(got, x.new) {
					seen[1]++
				}
				if !slices.Equal(got, x.old) && !slices.Equal(got, x.new) {
					t.Errorf("behind a crash within Compact: %q", got)
				}
				checkOpen(t, "behind a crash within Compact", c.Image())
				goesOn(t, c, got)
			})
			if seen[0] == 0 || seen[1] == 0 {
				t.Error("the crashes leave one outcome alone:", seen)
			}
		}
	}
}

// TestCrashWithinOpen: what Open wipes may be wiped in part; opened again the records are the same.
func TestCrashWithinOpen(t *testing.T) {
	for _, g := range []int{0, 1, 2} {
		before := blank(10)
		if g > 0 {
			before = laid(10, g, []string{"a"})
		}
		at, _ := areaAt(10, max(g, 1))
		before[1-g%2] = rec(128)
		lay(before, at+2, groupBytes(2, uint64(g), 2, texts("left")))
		before[at+3] = rec(128)
		want := modelOpen(before)
		d := diskOf(t, before)
		open(t, d)
		after := d.Image()
		wiped := deep(after)
		if g == 0 {
			wiped[1] = bytes.Clone(before[1])
		}
		everyCrash(t, replay(t, before, [][]api.Sent{differ(before, wiped), differ(wiped, after)}), func(c *disk.Disk) {
			if _, recs := open(t, c); !same(recs, want.recs) || !same(c.Image(), want.image) {
				t.Errorf("generation %d, behind a crash within Open: %q", g, told(recs))
			}
		})
	}
}
