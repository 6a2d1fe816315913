package fuzz_test

import (
	"fmt"
	"math"
	"slices"
	"strings"
	"testing"

	"dredger/api"
	"dredger/corpus"
	"dredger/disk"
	"dredger/draw"
	"dredger/gen"
	"dredger/mutate"
	"dredger/prog"
	"dredger/run"
	"dredger/shrink"
	"dredger/text"
	"dredger/types"
)

// kernelCalls is a description of the kernel's calls.
const kernelCalls = `
resource fd[int32]: 0, 1, 2, -1
resource pid[int32]: 1, 2
flags open = 1, 2, 4, 8, 16, 32
call open(0)(path ptr[in, text["/", "/a", "/a/b", "/b"]], flags flags[open, int32]) fd
call close(1)(f fd)
call read(2)(f fd, b ptr[out, data[0, 20]], n len[b, int32])
call write(3)(f fd, b ptr[in, data[17, 20]], n len[b, int32])
call seek(4)(f fd, o int32, w int8[0, 3])
call dup(5)(f fd) fd
call dup2(6)(f fd, g fd) fd
call unlink(7)(p ptr[in, text["/a", "/b", "/a/b"]])
call mkdir(8)(p ptr[in, text["/a", "/b"]])
call link(10)(p ptr[in, text["/a", "/b"]], q ptr[in, text["/a", "/b", "/c"]])
call rename(11)(p ptr[in, text["/a", "/b"]], q ptr[in, text["/a", "/b", "/c"]])
call truncate(13)(p ptr[in, text["/a", "/b"]], n int32[0, 40])
call pipe(14)(p ptr[out, array[fd, 2]])
call fork(15)() pid
call wait(17)(p ptr[inout, pid])
call kill(18)(p pid)
call getpid(19)() pid
`

// nameCalls is a description of calls by which files come, go, and are cut.
const nameCalls = `
resource fd[int32]: 1, 0
call open(0)(p ptr[in, text["/a", "/b"]], f int8[26, 27]) fd
call write(3)(f fd, p ptr[in, data[17]], n const[17, int32])
call unlink(7)(p ptr[in, text["/a", "/b"]])
call mkdir(8)(p ptr[in, text["/a", "/b"]])
call link(10)(p ptr[in, text["/a", "/b"]], q ptr[in, text["/a", "/b"]])
call rename(11)(p ptr[in, text["/a", "/b"]], q ptr[in, text["/a", "/b"]])
call truncate(13)(p ptr[in, text["/a", "/b"]], n int8[0, 3])
`

// script is draws: small and great numbers, few or many of them.
func script(n *numbers) (l []int) {
	for range pick(n, 0, n.next(10), n.next(60), 200, 200, 1000) {
		l = append(l, pick(n, n.next(1<<31), n.next(1<<31), n.next(300), n.next(8), -1-n.next(8), math.MinInt, math.MaxInt))
	}
	return l
}

func picks(n *numbers) (l []int) {
	for range pick(n, 0, n.next(20), 39, 40, 41, 100) {
		l = append(l, pick(n, 0, n.next(4), n.next(1<<31), -n.next(1<<31), math.MinInt, math.MaxInt))
	}
	return l
}

// model is a loop on a disk of its own, whose turns are as the chapter's text goes.
type model struct {
	x       api.Table
	defects int
	corpus  *corpus.Corpus
	disk    *disk.Disk
	program api.Program // the last turn's
}

func newModel(t *testing.T, d *disk.Disk, description string, defects int) *model {
	t.Helper()
	x, err := types.Compile(description)
	if err != nil {
		t.Fatal(err)
	}
	m := &model{x: x, defects: defects, disk: d.Copy()}
	m.open()
	return m
}

func (m *model) open() { m.corpus, _ = corpus.Open(m.disk) }

func (m *model) entries() (l []api.Entry) {
	for _, key := range m.corpus.Keys() {
		e, _ := m.corpus.Get(key)
		l = append(l, e)
	}
	return l
}

func (m *model) has(key string) bool {
	_, e := m.corpus.Get(key)
	return e == api.OK
}

// make is the turn's program.
func (m *model) make(draws []int) (api.Program, api.Errno) {
	var liked []api.Program
	for _, e := range m.entries() {
		p, err := text.Parse(m.x, e.Program)
		if e.Fault == 0 && err == nil {
			liked = append(liked, p)
		}
	}
	d, c := draw.New(draws), draw.Weigh(m.x, liked)
	if d.Next(4) == 0 || len(liked) == 0 {
		return gen.Program(m.x, c, d, 10)
	}
	one := d.Next(len(liked))
	other := d.Next(len(liked))
	return mutate.Mutate(m.x, c, liked[one], liked[other], d, 16)
}

func (m *model) put(e api.Entry, p api.Program, words string) string {
	e.Program, _ = text.Print(m.x, p)
	if m.corpus.Put(e) != api.OK {
		return "full"
	}
	return words
}

func (m *model) turn(draws, given []int) string {
	var picks []int
	for i := 0; i < len(given) && i < 40; i++ {
		rest := given[i] % 4
		if rest < 0 {
			rest += 4
		}
		picks = append(picks, rest)
	}
	p, why := m.make(draws)
	if m.program = p; why != api.OK {
		return "skip"
	}
	r, why := run.Program(m.x, p, m.defects, picks)
	if why != api.OK {
		return "skip"
	}
	if f := r.Fault; f != 0 {
		key := fmt.Sprintf("f%d", f)
		if m.has(key) {
			return fmt.Sprint("old ", f)
		}
		least, _, _ := shrink.Shrink(m.x, p, m.defects, picks)
		return m.put(api.Entry{Key: key, Fault: f, Picks: picks}, least, fmt.Sprint("fault ", f))
	}
	if len(corpus.Without(r.Points, m.corpus.Points())) == 0 {
		return "nothing"
	}
	number := 0
	for m.has(fmt.Sprintf("p%02d", number)) {
		number++
	}
	key := fmt.Sprintf("p%02d", number)
	return m.put(api.Entry{Key: key, Points: r.Points}, p, "new "+key)
}

// isPart asks whether a program is made of some steps of another one, in order; references may be other ones, or values.
func isPart(q, p api.Program) bool {
	for _, s := range q {
		i := slices.IndexFunc(p, func(o api.Step) bool { return o.Call == s.Call && slices.EqualFunc(s.Args, o.Args, alike) })
		if i < 0 {
			return false
		}
		p = p[i+1:]
	}
	return true
}

func alike(a, b api.Arg) bool {
	if b.Kind == api.ArgRef {
		return a.Kind == api.ArgRef || a.Kind == api.ArgValue
	}
	return a.Kind == b.Kind && a.Value == b.Value && string(a.Bytes) == string(b.Bytes) && slices.EqualFunc(a.Kids, b.Kids, alike)
}

// least asks for P6 of an entry of a fault that the last turn has made.
func (m *model) least(t *testing.T, e api.Entry) {
	t.Helper()
	p, err := text.Parse(m.x, e.Program)
	if err != nil || prog.Check(m.x, p) != nil || !isPart(p, m.program) {
		t.Fatalf("%+v, of %+v: %v", e, m.program, err)
	}
	for i := -1; i < len(p); i++ {
		q := p
		if i >= 0 {
			q, _ = prog.Remove(m.x, p, i)
		}
		r, why := run.Program(m.x, q, m.defects, e.Picks)
		if why != api.OK || (r.Fault == e.Fault) != (i < 0) {
			t.Fatalf("%+v without step %d: %+v, %v", e, i, r, why)
		}
	}
}

// goOn takes turns of a loop and of the model.
func goOn(t *testing.T, n *numbers, description string, d *disk.Disk, defects, turns int, met map[string]int) {
	t.Helper()
	m := newModel(t, d, description, defects)
	l := loop(t, d, description, defects)
	for range turns {
		draws, picks := script(n), picks(n)
		s, e := l.Turn(draws, picks)
		if want := m.turn(draws, picks); s != want || e != api.OK {
			t.Fatalf("%v, %v: %q, %v, want %q", draws, picks, s, e, want)
		}
		got := l.Entries()
		if !sameEntries(got, m.entries()) || !slices.Equal(l.Points(), points(got)) || !sameImage(l.Disk().Image(), m.disk.Image()) {
			t.Fatalf("%q: %+v, want %+v", s, got, m.entries())
		}
		words := strings.Fields(s)
		if met[words[0]]++; words[0] == "fault" {
			met[s]++
			i := slices.IndexFunc(got, func(e api.Entry) bool { return e.Key == "f"+words[1] })
			m.least(t, got[i])
		}
		if len(m.program) > 10 {
			met["long"]++
		}
		if n.next(20) == 0 {
			if e := l.Crash(0, nil, n.next(130)); e != api.OK || !sameEntries(l.Entries(), got) {
				t.Fatal(e, got, l.Entries())
			}
			m.open()
		}
	}
}

func enough(t *testing.T, met map[string]int, least int, words ...string) {
	t.Helper()
	for _, w := range words {
		if met[w] < least {
			t.Errorf("too few of %q: %v", w, met)
		}
	}
}

// TestCompare: P24.2, P24.3 and P6, on disks with much or little room, with any defects.
func TestCompare(t *testing.T) {
	n := numbers(1)
	met := map[string]int{}
	for i := range 40 {
		defects := pick(&n, 0, 1<<n.next(6), 1<<n.next(6), n.next(64), 63, -1)
		goOn(t, &n, kernelCalls, newDisk(t, pick(&n, 5, 20, 60, 200, 400)), defects, 40+i*4, met)
	}
	enough(t, met, 5, "nothing", "new", "old", "full", "long", "fault 3", "fault 4")
	for i := range 20 {
		goOn(t, &n, nameCalls, newDisk(t, 100), 1<<(i%3), 100, met)
	}
	enough(t, met, 3, "fault 1", "fault 2")
}

// TestCompareOthers: the same on disks that hold other tables' programs, other keys, and faults that no kernel has.
func TestCompareOthers(t *testing.T) {
	n := numbers(2)
	met := map[string]int{}
	for range 30 {
		d := newDisk(t, 400)
		goOn(t, &n, small, d, 63, 10, met)
		c, _ := corpus.Open(d)
		for range n.next(12) {
			e := api.Entry{Key: pick(&n, fmt.Sprintf("p%02d", n.next(12)), fmt.Sprintf("f%d", n.next(6)), "p7", "a", "zz", "p100"), Fault: pick(&n, 0, 0, 4, 99)}
			e.Program = pick(&n, "", "zz", "r0 = open(nil, 9)\n", "r0 = fork()\nkill(r0)", "fork()\n", "# why\nclose(-1)", strings.Repeat("close(0)\n", n.next(64)))
			if e.Points = corpus.Merge([]int{n.next(1300)}, []int{n.next(2000)}); e.Fault > 0 {
				e.Picks = []int{n.next(256)}
			}
			if why := c.Put(e); why != api.OK {
				t.Fatal(e, why)
			}
		}
		goOn(t, &n, kernelCalls, d, pick(&n, 0, n.next(64), 63), 60, met)
	}
	enough(t, met, 10, "nothing", "new", "old", "fault", "long")
}

// TestCompareRoom: the same where memory, texts and references are often too much.
func TestCompareRoom(t *testing.T) {
	n := numbers(3)
	met := map[string]int{}
	const description = `
resource r[int8]: 0, 1
struct g { a array[array[r, 8], 7], n len[b, int16], b data[0, 64] }
call pid(19)() r
call f(3)(a r, b ptr[in, g], c ptr[inout, data[64]], d ptr[out, array[g, 0, 2]], e len[d, int8])
call h(20)(a ptr[out, array[array[int64[0, 3], 8], 8]])
call i(21)(a ptr[in, array[array[int64[0, 3], 8], 8]], b ptr[in, array[array[int64[0, 3], 8], 8]])
call pipe(14)(a ptr[out, data[8]])
call fork(15)()
`
	for range 30 {
		goOn(t, &n, description, newDisk(t, 400), pick(&n, 0, 63), 60, met)
	}
	enough(t, met, 10, "nothing", "new", "skip", "fault")
}
