package run_test

import (
	"math"
	"slices"
	"testing"

	"dredger/api"
	"dredger/binary"
	"dredger/draw"
	"dredger/gen"
	"dredger/layout"
	"dredger/mutate"
	"dredger/run"
	"dredger/types"
)

// numbers is a source of the same numbers each time.
type numbers uint64

func (n *numbers) next(below int) int {
	*n = *n*6364136223846793005 + 1442695040888963407
	return int(uint64(*n)>>33) % below
}

// pick is one of a list.
func pick[T any](n *numbers, list ...T) T { return list[n.next(len(list))] }

// maker makes executed programs.
type maker struct{ *numbers }

func (m maker) path() string {
	return pick(m.numbers, "/", "/a", "/b", "/a", "/b", "/d", "/d/a", "/c") + "\x00"
}

func (m maker) addr() int {
	return pick(m.numbers, path, path, other, other, space, space+8, path+m.next(2048), pick(m.numbers, 0, path-1, path+2047, path+2048, 1<<20))
}

func (m maker) value() int {
	return pick(m.numbers, 0, 1, 2, 3, m.next(7), m.next(20), m.next(64), -1, pick(m.numbers, 1<<60, -1<<60, 1<<31))
}

// word is a value, or, mostly of a step ahead that makes something of use, a result.
func (m maker) word(place, value int) api.Word {
	if place == 0 || m.next(3) > 0 {
		return api.Word{Ref: -1, Value: value}
	}
	return api.Word{Ref: m.next(place), Value: value}
}

func (m maker) copied(place int) api.Copy {
	if place == 0 || m.next(4) > 0 {
		return at(pick(m.numbers, path, other, path, other, m.addr()), m.path())
	}
	return of(m.addr(), m.next(place), pick(m.numbers, 1, 2, 4, 8), m.value())
}

// usual is a call's number; those by which processes come and go, and wait for one another, are there often.
func (m maker) usual() int {
	switch m.next(12) {
	case 0, 1:
		return api.CallFork
	case 2:
		return pick(m.numbers, api.CallPipe, api.CallWait)
	case 3:
		return pick(m.numbers, api.CallRead, api.CallWrite)
	case 4:
		return pick(m.numbers, api.CallClose, api.CallDup2, api.CallDup)
	case 5:
		return pick(m.numbers, api.CallLink, api.CallUnlink, api.CallRename, api.CallTruncate)
	case 6:
		return m.next(64)
	}
	return m.next(api.NumCalls)
}

func (m maker) words(number, place int) (l []api.Word) {
	w := func(v int) { l = append(l, m.word(place, v)) }
	switch number {
	case api.CallOpen:
		w(pick(m.numbers, path, other))
		w(pick(m.numbers, 11, 9, 3, 1, m.next(64)))
	case api.CallRead, api.CallWrite:
		w(m.next(5))
		w(m.addr())
		w(pick(m.numbers, 1, 3, 8, m.value()))
	case api.CallWait:
		w(pick(m.numbers, 0, 0, m.addr()))
	case api.CallUnlink, api.CallMkdir, api.CallRmdir, api.CallLink, api.CallRename, api.CallStat, api.CallTruncate, api.CallPipe:
		return []api.Word{{Ref: -1, Value: pick(m.numbers, path, other)}, {Ref: -1, Value: pick(m.numbers, path, other, other, m.next(20))}}
	default:
		for range m.next(4) {
			w(m.value())
		}
	}
	return l
}

// program is one of which half begin with a file that has another name.
func (m maker) program(most int) (l []api.Exec) {
	if most > 6 && m.next(2) == 0 {
		l = []api.Exec{open("/a"), call(api.CallWrite, 0, path, 20), with(call(api.CallLink, path, other), at(other, "/b\x00"))}
	}
	for place := len(l); place < most; place++ {
		if m.next(most) == 0 {
			break
		}
		x := api.Exec{Number: m.usual()}
		x.Words = m.words(x.Number, place)
		for range pick(m.numbers, 0, 0, 1, 2) {
			x.Copies = append(x.Copies, m.copied(place))
		}
		l = append(l, x)
	}
	return l
}

func (m maker) picks() (l []int) {
	for range pick(m.numbers, 0, m.next(20), 400, 500) {
		l = append(l, pick(m.numbers, 0, m.next(4), m.next(1<<31), -m.next(1<<31), math.MinInt, math.MaxInt))
	}
	return l
}

// met is how often a run came to something.
type met map[string]int

// compare asks whether a run tells what the model does.
func (k met) compare(t *testing.T, l []api.Exec, defects int, picks []int) api.Report {
	t.Helper()
	r, e := run.Exec(l, defects, picks)
	m := modelRun(l, defects, picks, 400)
	if want := m.report(); e != api.OK || !same(r, want) {
		t.Fatalf("%+v, %d, %v: %+v, %v, want %+v", l, defects, picks, r, e, want)
	}
	b, _ := binary.Encode(l)
	if again, e := run.Run(b, defects, picks); e != api.OK || !same(again, r) {
		t.Fatalf("% x, %d, %v: %+v, %v, want %+v", b, defects, picks, again, e, r)
	}
	if defects&63 == 0 && r.Fault != 0 || len(r.Results) > 400 || r.Fault != 0 && r.Cut {
		t.Fatalf("%+v, %d, %v: %+v", l, defects, picks, r)
	}
	k.count(r, m)
	return r
}

func (k met) count(r api.Report, m *model) {
	switch {
	case r.Fault != 0:
		k["fault "+string(rune('0'+r.Fault))]++
	case r.Cut && m.turns == 400:
		k["long"]++
	case r.Cut:
		k["blocked"]++
	default:
		k["end"]++
	}
	for _, p := range r.Points {
		if p%64 == 63 {
			k["waits"]++
		}
	}
	if r.Fault != 0 && m.ended {
		k["fault at an end"]++
	}
	if len(m.beings) > 4 {
		k["numbers again"]++
	}
}

func (k met) enough(t *testing.T, least int, words ...string) {
	t.Helper()
	for _, w := range words {
		if k[w] < least {
			t.Errorf("too few of %q: %v", w, k)
		}
	}
}

// TestCompare: P22.1, P22.2, P22.4, without defects and with any.
func TestCompare(t *testing.T) {
	n := numbers(1)
	k := met{}
	for i := range 6000 {
		m := maker{&n}
		defects := 0
		if i%2 == 1 {
			defects = pick(&n, 1<<n.next(6), n.next(64), pick(&n, -1, 64, math.MinInt))
		}
		k.compare(t, m.program(pick(&n, 6, 20, 64)), defects, m.picks())
	}
	k.enough(t, 12, "fault 1", "fault 2", "fault 3", "fault 4", "fault at an end", "long", "blocked", "end", "waits", "numbers again")
}

// TestWithoutForks: P22.3, each step has one result at most, in order.
func TestWithoutForks(t *testing.T) {
	n := numbers(2)
	k := met{}
	for range 2000 {
		m := maker{&n}
		l := slices.DeleteFunc(m.program(64), func(x api.Exec) bool { return x.Number == api.CallFork })
		for i := range l {
			for j := range l[i].Words {
				l[i].Words[j].Ref = min(l[i].Words[j].Ref, i-1)
			}
			for j := range l[i].Copies {
				if l[i].Copies[j].Ref >= i {
					l[i].Copies[j] = at(path, "/a\x00")
				}
			}
		}
		r := k.compare(t, l, pick(&n, 0, n.next(64)), m.picks())
		for i, x := range r.Results {
			if x.Proc != 1 || x.Step != i {
				t.Fatalf("%+v: %+v", l, r)
			}
		}
	}
	k.enough(t, 30, "blocked", "end")
}

// kernelCalls is a description of the kernel's calls.
const kernelCalls = `
resource fd[int32]: 0, 1, 2, -1
resource pid[int32]: 1, 2
flags open = 1, 2, 4, 8, 16, 32
call open(0)(path ptr[in, text["/", "/a", "/a/b", "/b"]], flags flags[open, int32]) fd
call close(1)(f fd)
call read(2)(f fd, b ptr[out, data[0, 20]], n len[b, int32])
call write(3)(f fd, b ptr[in, data[0, 20]], n len[b, int32])
call seek(4)(f fd, o int32, w int8[0, 3])
call dup(5)(f fd) fd
call dup2(6)(f fd, g fd) fd
call unlink(7)(p ptr[in, text["/a", "/b", "/a/b"]])
call mkdir(8)(p ptr[in, text["/a", "/b"]])
call link(10)(p ptr[in, text["/a", "/b"]], q ptr[in, text["/a", "/b", "/c"]])
call rename(11)(p ptr[in, text["/a", "/b"]], q ptr[in, text["/a", "/b", "/c"]])
call truncate(13)(p ptr[in, text["/a", "/b"]], n int32[0, 40])
call pipe(14)(p ptr[out, array[fd, 2]])
call fork(15)() pid
call wait(17)(p ptr[inout, pid])
call kill(18)(p pid)
call getpid(19)() pid
`

// TestCompareDrawn: P4 of programs that were drawn and mutated.
func TestCompareDrawn(t *testing.T) {
	x, e := types.Compile(kernelCalls)
	if e != nil {
		t.Fatal(e)
	}
	n := numbers(3)
	k := met{}
	c := draw.Weigh(x, nil)
	var p api.Program
	for i := range 2500 {
		var l []int
		for range 600 {
			l = append(l, n.next(1<<31))
		}
		if i%10 == 0 {
			p, _ = gen.Program(x, c, draw.New(l), 30)
		} else {
			q, _ := gen.Program(x, c, draw.New(l), 9)
			p, _ = mutate.Mutate(x, c, p, q, draw.New(l[500:]), 30)
		}
		defects, picks := pick(&n, 0, n.next(64), 1<<n.next(6)), maker{&n}.picks()
		r, e := run.Program(x, p, defects, picks)
		laid, why := layout.Lay(x, p)
		if why != api.OK {
			if e != why || !same(r, api.Report{}) {
				t.Fatal(r, e, why)
			}
			continue
		}
		if want := k.compare(t, laid, defects, picks); e != api.OK || !same(r, want) {
			t.Fatalf("%+v: %+v, %v, want %+v", p, r, e, want)
		}
	}
	k.enough(t, 8, "fault 1", "fault 2", "fault 3", "fault 4", "end", "waits")
}
