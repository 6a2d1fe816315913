package whole_test

import (
	"math"
	"reflect"
	"slices"
	"strings"
	"testing"

	"dredger/api"
	"dredger/binary"
	"dredger/run"
)

// numbers is a source of the same numbers each time.
type numbers uint64

func (n *numbers) next(below int) int {
	*n = *n*6364136223846793005 + 1442695040888963407
	return int(uint64(*n)>>33) % below
}

// pick is one of a list.
func pick[T any](n *numbers, list ...T) T { return list[n.next(len(list))] }

func trim(r api.Report) api.Report {
	r.Results, r.Points = append([]api.Result(nil), r.Results...), append([]int(nil), r.Points...)
	return r
}

// met is how often something came about.
type met map[string]int

func (k met) enough(t *testing.T, least int, words ...string) {
	t.Helper()
	for _, w := range words {
		if k[w] < least {
			t.Errorf("too few of %q: %v", w, k)
		}
	}
}

// runs asks whether a run comes to what the model tells; P4.
func (k met) runs(t *testing.T, l []api.Exec, defects int, picks []int) {
	t.Helper()
	b, e := binary.Encode(l)
	if e != api.OK {
		t.Fatal(e)
	}
	r, e := run.Run(b, defects, picks)
	want := modelRun(l, defects, picks)
	if e != api.OK || !reflect.DeepEqual(trim(r), trim(want)) {
		i := 0
		for i < min(len(r.Results), len(want.Results)) && r.Results[i] == want.Results[i] {
			i++
		}
		t.Fatalf("%+v, %d, %v: %v, from result %d on:\n%+v, want\n%+v", l, defects, picks, e, i, r, want)
	}
	if defects&63 == 0 && r.Fault != 0 {
		t.Fatalf("%+v, %v: %+v", l, picks, r)
	}
	for _, p := range r.Points {
		k[point(p)]++
	}
	k["fault "+string(rune('0'+r.Fault))]++
	if r.Cut {
		k["cut"]++
	}
}

// point is words for a point.
func point(p int) string { return strings.Join([]string{"call", digits(p / 64), digits(p % 64)}, " ") }

func digits(n int) string { return string([]rune{rune('0' + n/10), rune('0' + n%10)}) }

// maker makes executed programs.
type maker struct {
	*numbers
	place   int  // of the call
	crowded bool // there are many names, and much in the files
}

const (
	one, two = 4096, 4160 // where paths stand
	space    = 4300
)

func (m *maker) path() string {
	if m.crowded && m.next(9) > 0 {
		return pick(m.numbers, "/", "/", "/d/") + string(rune('a'+m.next(8)))
	}
	if m.next(12) == 0 {
		return pick(m.numbers, "/", "", "a", "//a", "/a/", "/d/abcdefg", "/abcdef", "/a/b/c", strings.Repeat("/d", 13))
	}
	return pick(m.numbers, "/a", "/b", "/a", "/b", "/c", "/d", "/d/a", "/d/a", "/d/e", "/d/e/f", "/d/"+string(rune('a'+m.next(9))), "/"+string(rune('a'+m.next(9))))
}

func (m *maker) ref(value int) api.Word {
	if m.place > 0 && m.next(4) == 0 {
		return api.Word{Ref: m.next(m.place), Value: value}
	}
	return api.Word{Ref: -1, Value: value}
}

func (m *maker) addr() int {
	return pick(m.numbers, space, space, space+20, one, two, 4096+m.next(2048), 0, pick(m.numbers, 4095, 6143, 6144, 6140, 6136, -1, 1<<60))
}

func (m *maker) fd() int {
	return pick(m.numbers, 0, 0, 1, 1, 2, 3, m.next(6), m.next(6), pick(m.numbers, 0, -1, 6, 1<<60))
}

func (m *maker) count() int {
	if m.crowded && m.next(3) > 0 {
		return 96
	}
	return pick(m.numbers, 1, 3, 8, 16, 17, 40, m.next(100), pick(m.numbers, 0, -1, 97, 2048, 2049, 1<<60))
}

func (m *maker) flags() int {
	return pick(m.numbers, 11, 11, 11, 9, 27, 43, 15, 3, 1, 2, 10, m.next(64), pick(m.numbers, 0, 64, -1, 8))
}

func (m *maker) words(number int) (l []int) {
	switch number {
	case api.CallOpen:
		return []int{one, m.flags()}
	case api.CallRead, api.CallWrite:
		return []int{m.fd(), m.addr(), m.count()}
	case api.CallSeek:
		return []int{m.fd(), pick(m.numbers, 0, 0, m.next(100), -m.next(100), 1<<20, -1<<20, 1<<20+1), pick(m.numbers, 0, 1, 2, 3, -1)}
	case api.CallClose, api.CallDup, api.CallDup2:
		return []int{m.fd(), m.fd()}
	case api.CallTruncate:
		return []int{one, m.count()}
	case api.CallStat:
		return []int{one, m.addr()}
	case api.CallPipe, api.CallWait:
		return []int{m.addr()}
	case api.CallExit, api.CallKill:
		return []int{pick(m.numbers, 1, 2, 3, m.next(6), m.next(1000), -5)}
	case api.CallFork, api.CallGetpid:
		return make([]int, m.next(3))
	}
	return []int{pick(m.numbers, one, one, one, one, m.addr()), two}
}

func (m *maker) call(number int) api.Exec {
	x := api.Exec{Number: number}
	for _, v := range m.words(number) {
		x.Words = append(x.Words, m.ref(v))
	}
	if number >= api.CallUnlink && number <= api.CallTruncate || number == api.CallOpen {
		for i := range x.Words {
			if x.Words[i].Ref = -1; m.next(60) == 0 {
				x.Words = x.Words[:i]
				break
			}
		}
		x.Copies = append(x.Copies, api.Copy{Addr: one, Ref: -1, Bytes: []byte(m.path() + "\x00")}, api.Copy{Addr: two, Ref: -1, Bytes: []byte(m.path() + "\x00")})
	}
	if m.place > 0 && m.next(8) == 0 {
		x.Copies = append(x.Copies, api.Copy{Addr: pick(m.numbers, space+m.next(30), max(0, min(m.addr(), 1<<20))), Ref: m.next(m.place), Size: pick(m.numbers, 1, 2, 4, 8), Value: m.next(999) - 99})
	}
	return x
}

func words(l ...int) (w []api.Word) {
	for _, v := range l {
		w = append(w, api.Word{Ref: -1, Value: v})
	}
	return w
}

func path(s string) []api.Copy { return []api.Copy{{Addr: one, Ref: -1, Bytes: []byte(s + "\x00")}} }

// file makes a file, and opens it.
func file(s string) api.Exec {
	return api.Exec{Number: api.CallOpen, Words: words(one, 11), Copies: path(s)}
}

// seed is calls that a program begins with, so that there is something for the others.
func (m *maker) seed() (l []api.Exec) {
	if m.crowded {
		for _, name := range []string{"/a", "/b", "/c", "/e"} {
			l = append(l, file(name), api.Exec{Number: api.CallTruncate, Words: words(one, 80)}, api.Exec{Number: api.CallClose})
		}
		return append(l, api.Exec{Number: api.CallMkdir, Words: words(one), Copies: path("/d")}, file("/d/a"))
	}
	both := append(path("/d/a"), api.Copy{Addr: two, Ref: -1, Bytes: []byte("/b\x00")})
	return []api.Exec{
		file("/a"), {Number: api.CallWrite, Words: words(0, space, 40)},
		{Number: api.CallMkdir, Words: words(one), Copies: path("/d")}, file("/d/a"), {Number: api.CallLink, Words: words(one, two), Copies: both},
	}
}

// program is one of a kind: of files, of names, of processes and pipes, or of all.
func (m *maker) program() (l []api.Exec) {
	kinds := [][]int{
		{0, 0, 1, 2, 3, 3, 4, 5, 6, 12, 13},
		{0, 7, 8, 8, 9, 10, 10, 11, 11, 12, 13},
		{0, 1, 2, 3, 14, 14, 15, 15, 16, 17, 17, 18, 19},
		{0, 1, 2, 3, 4, 5, 6, 7, 8, 9, 10, 11, 12, 13, 14, 15, 16, 17, 18, 19, m.next(64)},
	}
	kind := kinds[m.next(4)]
	if m.crowded = m.next(4) == 0; m.crowded {
		kind = []int{0, 0, 0, 1, 1, 8, 10, 10, 11, 11, 13, 13, 13, 13}
	}
	if m.next(2) == 0 {
		l = m.seed()
	}
	for range 1 + m.next(api.MaxCalls-len(l)) {
		if m.place = len(l); m.next(20) == 0 {
			kind = kinds[m.next(4)]
		}
		l = append(l, m.call(pick(m.numbers, kind...)))
	}
	return l
}

func (m *maker) picks() (l []int) {
	for range pick(m.numbers, 0, m.next(20), 100, 400, 450) {
		l = append(l, pick(m.numbers, 0, 1, m.next(4), m.next(1<<31), -m.next(1<<31), math.MinInt, math.MaxInt))
	}
	return l
}

// TestKernel: P4, without defects: the results are the model's, no rule is broken.
func TestKernel(t *testing.T) {
	n := numbers(1)
	k := met{}
	for range 9000 {
		m := &maker{numbers: &n}
		k.runs(t, m.program(), pick(&n, 0, 0, 64, -64), m.picks())
	}
	k.enough(t, 20, "cut", "call 02 63", "call 03 63", "call 17 63")
	for number := range api.NumCalls {
		k.enough(t, 50, point(number*64))
	}
	for _, e := range []struct {
		number int
		errs   []api.Err
	}{
		{api.CallOpen, []api.Err{api.ENOENT, api.EFAULT, api.EEXIST, api.ENOTDIR, api.EISDIR, api.EINVAL, api.ENFILE, api.EMFILE, api.ENAME, api.ENOSPC}},
		{api.CallRead, []api.Err{api.EBADF, api.EFAULT, api.EINVAL, api.EISDIR}},
		{api.CallTruncate, []api.Err{api.ENOENT, api.EISDIR, api.EFBIG, api.ENOSPC}},
		{api.CallWrite, []api.Err{api.EBADF, api.EFAULT, api.EINVAL, api.EFBIG, api.EPIPE}},
		{api.CallSeek, []api.Err{api.EBADF, api.EINVAL, api.ESPIPE}},
		{api.CallDup, []api.Err{api.EBADF, api.EMFILE}},
		{api.CallRmdir, []api.Err{api.ENOENT, api.ENOTDIR, api.EFULL, api.EINVAL}},
		{api.CallMkdir, []api.Err{api.EEXIST, api.ENOSPC}},
		{api.CallLink, []api.Err{api.EPERM, api.EEXIST, api.ENOSPC}},
		{api.CallRename, []api.Err{api.ENOENT, api.EISDIR, api.ENOTDIR, api.EINVAL, api.EFULL, api.ENOSPC}},
		{api.CallPipe, []api.Err{api.EFAULT, api.EMFILE}},
		{api.CallFork, []api.Err{api.EAGAIN}},
		{api.CallWait, []api.Err{api.EFAULT, api.ECHILD}},
		{api.CallKill, []api.Err{api.ESRCH, api.EPERM}},
	} {
		for _, why := range e.errs {
			k.enough(t, 5, point(e.number*64+int(why)))
		}
	}
}

// TestDefects: P4, with defects: the results, and the rule that is broken, are the model's with these.
func TestDefects(t *testing.T) {
	n := numbers(2)
	k := met{}
	for range 9000 {
		m := &maker{numbers: &n}
		k.runs(t, m.program(), pick(&n, 1<<n.next(6), 1<<n.next(6), n.next(64), -1), m.picks())
	}
	k.enough(t, 50, "fault 1", "fault 2", "fault 3", "fault 4", "cut")
}

// TestShortPrograms: P4 of all programs of a few calls, with all picks that matter.
func TestShortPrograms(t *testing.T) {
	k := met{}
	calls := []api.Exec{
		file("/a"),
		{Number: api.CallPipe, Words: words(space)},
		{Number: api.CallFork},
		{Number: api.CallWait, Words: words(0)},
		{Number: api.CallRead, Words: words(0, space, 4)},
		{Number: api.CallWrite, Words: words(1, space, 9)},
		{Number: api.CallClose, Words: words(1)},
		{Number: api.CallDup2, Words: words(0, 1)},
		{Number: api.CallKill, Words: words(2)},
		{Number: api.CallUnlink, Words: words(one)},
	}
	size := len(calls)
	for code := range size * size * size * size {
		l := []api.Exec{calls[code/size/size/size], calls[code/size/size%size], calls[code/size%size], calls[code%size]}
		forks := slices.IndexFunc(l, func(x api.Exec) bool { return x.Number == api.CallFork }) >= 0
		for _, defects := range []int{0, 63} {
			for picks := range 8 {
				k.runs(t, l, defects, []int{picks & 1, picks >> 1 & 1, picks >> 2 & 1, 1, 0, 1})
				if !forks {
					break
				}
			}
		}
	}
	k.enough(t, 5, "fault 2", "fault 3", "fault 4", "cut")
}
