package fuzz_test

import (
	"bytes"
	"reflect"
	"slices"
	"strings"
	"testing"

	"dredger/api"
	"dredger/corpus"
	"dredger/disk"
	"dredger/draw"
	"dredger/fuzz"
	"dredger/text"
	"dredger/types"
)

// small is a description of few calls, by which programs are drawn by hand.
const small = `
resource fd[int32]: 0
call open(0)(p ptr[in, text["/a", "/b"]], f const[11, int32]) fd
call dup2(6)(a fd, b fd)
call getpid(19)()
`

// drawn is a program of small: of each step the call, and the draws of its arguments.
type drawn [][]int

func getpid() drawn { return drawn{{2}} }
func opened() drawn { return drawn{{0, 1, 0}} }

// doubled opens /a and /b, and dup2 has both of them.
func doubled() drawn { return drawn{{0, 1, 0}, {0, 1, 1}, {1, 0, 1}} }

// longer is likewise, with a getpid between.
func longer() drawn { return drawn{{0, 1, 0}, {0, 1, 1}, {2}, {1, 0, 1}} }

// draws is those that make the program, by the weights that a loop's programs give.
func (p drawn) draws(t *testing.T, l *fuzz.Loop) []int {
	t.Helper()
	x, err := types.Compile(small)
	if err != nil {
		t.Fatal(err)
	}
	var all []api.Program
	for _, e := range l.Entries() {
		if q, err := text.Parse(x, e.Program); err == nil && e.Fault == 0 {
			all = append(all, q)
		}
	}
	c := draw.Weigh(x, all)
	list, last := []int{0, len(p) - 1}, -1
	for _, s := range p {
		pick := 0
		for b := range s[0] {
			pick += c.Weight(last, b)
		}
		list, last = append(append(list, pick), s[1:]...), s[0]
	}
	return list
}

const (
	doubledText = "r0 = open(&\"2f61\", 11)\nr1 = open(&\"2f62\", 11)\ndup2(r0, r1)\n"
	openedText  = "r0 = open(&\"2f61\", 11)\n"
)

func newDisk(t *testing.T, sectors int) *disk.Disk {
	t.Helper()
	d, e := disk.New(sectors)
	if e != api.OK {
		t.Fatal(e)
	}
	return d
}

func diskOf(t *testing.T, image [][]byte) *disk.Disk {
	t.Helper()
	d, e := disk.Of(image)
	if e != api.OK {
		t.Fatal(e)
	}
	return d
}

// holding is a disk whose corpus has entries.
func holding(t *testing.T, sectors int, l ...api.Entry) *disk.Disk {
	t.Helper()
	d := newDisk(t, sectors)
	c, _ := corpus.Open(d)
	for _, x := range l {
		if e := c.Put(x); e != api.OK {
			t.Fatal(x, e)
		}
	}
	return d
}

func loop(t *testing.T, d *disk.Disk, description string, defects int) *fuzz.Loop {
	t.Helper()
	l, err := fuzz.New(d, description, defects)
	if err != nil || l == nil {
		t.Fatal(err)
	}
	return l
}

// makes asks for what a turn does that draws a program of small.
func makes(t *testing.T, l *fuzz.Loop, p drawn, picks []int, want string) {
	t.Helper()
	does(t, l, p.draws(t, l), picks, want)
}

// does asks for what a turn does.
func does(t *testing.T, l *fuzz.Loop, draws, picks []int, want string) {
	t.Helper()
	if s, e := l.Turn(draws, picks); s != want || e != api.OK {
		t.Errorf("%v, %v: %q, %v, want %q", draws, picks, s, e, want)
	}
}

// plain is an entry whose empty lists are nil.
func plain(e api.Entry) api.Entry {
	e.Points, e.Picks = append([]int(nil), e.Points...), append([]int(nil), e.Picks...)
	return e
}

func sameEntry(a, b api.Entry) bool { return reflect.DeepEqual(plain(a), plain(b)) }

func sameEntries(a, b []api.Entry) bool { return slices.EqualFunc(a, b, sameEntry) }

func sameImage(a, b [][]byte) bool { return slices.EqualFunc(a, b, bytes.Equal) }

// points is those of all programs, by a table of all points.
func points(l []api.Entry) (all []int) {
	var has [api.MaxPoints]bool
	for _, e := range l {
		for _, p := range e.Points {
			has[p] = has[p] || e.Fault == 0
		}
	}
	for p, is := range has {
		if is {
			all = append(all, p)
		}
	}
	return all
}

// has asks for all entries of a loop, which another loop of its disk has, too, and for the points of these.
func has(t *testing.T, l *fuzz.Loop, want ...api.Entry) {
	t.Helper()
	other := loop(t, diskOf(t, l.Disk().Image()), "", 0)
	for _, l := range []*fuzz.Loop{l, other} {
		if got := l.Entries(); !sameEntries(got, want) {
			t.Errorf("%+v, want %+v", got, want)
		}
		if got := l.Points(); !slices.Equal(got, points(want)) {
			t.Errorf("points %v, want %v", got, points(want))
		}
	}
}

// keyed is the keys of entries.
func keyed(l []api.Entry) string {
	var keys []string
	for _, e := range l {
		keys = append(keys, e.Key)
	}
	return strings.Join(keys, " ")
}

// numbers is a source of the same numbers each time.
type numbers uint64

func (n *numbers) next(below int) int {
	*n = *n*6364136223846793005 + 1442695040888963407
	return int(uint64(*n)>>33) % below
}

// pick is one of a list.
func pick[T any](n *numbers, list ...T) T { return list[n.next(len(list))] }
