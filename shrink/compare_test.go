package shrink_test

import (
	"math"
	"slices"
	"testing"

	"dredger/api"
	"dredger/draw"
	"dredger/gen"
	"dredger/mutate"
	"dredger/prog"
	"dredger/run"
	"dredger/shrink"
	"dredger/types"
)

// numbers is a source of the same numbers each time.
type numbers uint64

func (n *numbers) next(below int) int {
	*n = *n*6364136223846793005 + 1442695040888963407
	return int(uint64(*n)>>33) % below
}

// pick is one of a list.
func pick[T any](n *numbers, list ...T) T { return list[n.next(len(list))] }

// The model takes nothing out of what was shortened already: it keeps which steps of the program are left, and makes each program anew of the one that was handed in.
type model struct {
	x       api.Table
	p       api.Program
	defects int
	picks   []int
	runs    int
	passes  int
	others  int // how often another fault than the one in question was reported
}

// argument is one of a type, in a program whose steps stand at other places (below 0: nowhere).
func (m *model) argument(n int, a api.Arg, places []int) api.Arg {
	y := m.x.Types[n]
	b := api.Arg{Kind: a.Kind, Value: a.Value, Bytes: slices.Clone(a.Bytes)}
	if a.Kind == api.ArgRef {
		if b.Value = places[a.Value]; b.Value < 0 {
			return api.Arg{Kind: api.ArgValue, Value: y.Values[0]}
		}
	}
	for k, kid := range a.Kids {
		elem := 0
		switch y.Kind {
		case api.TypeStruct:
			elem = k
		case api.TypeUnion:
			elem = a.Value
		}
		b.Kids = append(b.Kids, m.argument(y.Elems[elem], kid, places))
	}
	return b
}

// of is the program of the steps that are left.
func (m *model) of(left []int) (q api.Program) {
	places := slices.Repeat([]int{-1}, len(m.p))
	for to, from := range left {
		places[from] = to
		s := api.Step{Call: m.p[from].Call}
		for k, a := range m.p[from].Args {
			s.Args = append(s.Args, m.argument(m.x.Calls[s.Call].Args[k], a, places))
		}
		q = append(q, s)
	}
	return q
}

func (m *model) fault(left []int) int {
	m.runs++
	r, _ := run.Program(m.x, m.of(left), m.defects, m.picks)
	return r.Fault
}

// pass is the steps that one pass leaves, of those up to a place that it has not come to yet, and those behind.
func (m *model) pass(ahead, behind []int, fault int) []int {
	if len(ahead) == 0 {
		return behind
	}
	last := len(ahead) - 1
	switch m.fault(slices.Concat(ahead[:last], behind)) {
	case fault:
		return m.pass(ahead[:last], behind, fault)
	case 0:
	default:
		m.others++
	}
	return m.pass(ahead[:last], slices.Concat(ahead[last:], behind), fault)
}

func (m *model) shrink() ([]int, api.Errno) {
	var left []int
	for i := range m.p {
		left = append(left, i)
	}
	m.runs++
	r, why := run.Program(m.x, m.p, m.defects, m.picks)
	if why != api.OK {
		return nil, why
	}
	if r.Fault == 0 {
		return nil, api.ErrFault
	}
	for {
		m.passes++
		next := m.pass(left, nil, r.Fault)
		if len(next) == len(left) {
			return left, api.OK
		}
		left = next
	}
}

// least is what Least says, by all programs of one step less.
func (m *model) least() bool {
	r, why := run.Program(m.x, m.p, m.defects, m.picks)
	if why != api.OK || r.Fault == 0 {
		return false
	}
	for i := range m.p {
		var left []int
		for k := range m.p {
			if k != i {
				left = append(left, k)
			}
		}
		if m.fault(left) == r.Fault {
			return false
		}
	}
	return true
}

// met is how often something came about.
type met map[string]int

// compare asks whether Shrink and Least tell what the model does, and for what follows.
func (k met) compare(t *testing.T, m *model) {
	t.Helper()
	if got := shrink.Least(m.x, m.p, m.defects, m.picks); got != m.least() {
		t.Fatalf("%+v, %d, %v: Least: %v", m.p, m.defects, m.picks, got)
	}
	m.runs = 0
	q, runs, err := shrink.Shrink(m.x, m.p, m.defects, m.picks)
	left, why := m.shrink()
	if why != api.OK {
		if k[why.Error()]++; q != nil || runs != 0 || err != error(api.Fault{Why: why}) {
			t.Fatalf("%+v, %d, %v: %+v, %d, %v, want %v", m.p, m.defects, m.picks, q, runs, err, why)
		}
		return
	}
	if err != nil || !same(q, m.of(left)) || runs != m.runs {
		t.Fatalf("%+v, %d, %v: %+v, %d, %v, want %+v, %d", m.p, m.defects, m.picks, q, runs, err, m.of(left), m.runs)
	}
	before, after := fault(t, m.x, m.p, m.defects, m.picks), fault(t, m.x, q, m.defects, m.picks)
	if n := len(m.p); runs > n*(n+1)+1 || before != after || !shrink.Least(m.x, q, m.defects, m.picks) || prog.Check(m.x, q) != nil {
		t.Fatalf("%+v, %d, %v: %+v, %d runs, fault %d, it was %d", m.p, m.defects, m.picks, q, runs, after, before)
	}
	k["fault "+string(rune('0'+before))]++
	k["steps "+string(rune('0'+min(len(q), 9)))]++
	k["passes "+string(rune('0'+min(m.passes, 9)))]++
	if m.others > 0 {
		k["another fault"]++
	}
	if len(q) == len(m.p) {
		k["least already"]++
		return
	}
	k.compare(t, &model{x: m.x, p: q, defects: m.defects, picks: m.picks})
}

func (k met) enough(t *testing.T, least int, words ...string) {
	t.Helper()
	for _, w := range words {
		if k[w] < least {
			t.Errorf("too few of %q: %v", w, k)
		}
	}
}

func picks(n *numbers) (l []int) {
	for range pick(n, 0, n.next(20), 100) {
		l = append(l, pick(n, 0, n.next(4), n.next(1<<31), -n.next(1<<31), math.MinInt, math.MaxInt))
	}
	return l
}

// grown is a program that is drawn, and mutated some times.
func grown(n *numbers, x api.Table, most, times int) api.Program {
	var l []int
	for range 900 {
		l = append(l, n.next(1<<31))
	}
	d := draw.New(l)
	c := draw.Weigh(x, nil)
	p, _ := gen.Program(x, c, d, most)
	for range times {
		q, _ := gen.Program(x, c, d, 5)
		p, _ = mutate.Mutate(x, c, p, q, d, 40)
	}
	return p
}

// TestCompare: P23.1 to P23.5 of any calls.
func TestCompare(t *testing.T) {
	n := numbers(1)
	k := met{}
	x := sample(t)
	for i := range 2500 {
		defects := pick(&n, 63, 1<<n.next(6), 1<<n.next(6), n.next(64), -1)
		if i%50 == 0 {
			defects = 0
		}
		k.compare(t, &model{x: x, p: grown(&n, x, pick(&n, 5, 20, 30), n.next(4)), defects: defects, picks: picks(&n)})
	}
	k.enough(t, 20, "fault 3", "fault 4", "steps 1", "steps 2", "passes 2", "another fault", api.ErrFault.Error())
}

func compile(t *testing.T, s string) api.Table {
	t.Helper()
	x, err := types.Compile(s)
	if err != nil {
		t.Fatal(err)
	}
	return x
}

// TestCompareNames: the same of calls that often undo one another, so that it takes several passes.
func TestCompareNames(t *testing.T) {
	x := compile(t, `
resource fd[int32]: 1, 0
call open(0)(p ptr[in, text["/a", "/b"]], f int8[26, 27]) fd
call write(3)(f fd, p ptr[in, data[17]], n const[17, int32])
call unlink(7)(p ptr[in, text["/a", "/b"]])
call mkdir(8)(p ptr[in, text["/a", "/b"]])
call rmdir(9)(p ptr[in, text["/a", "/b"]])
call link(10)(p ptr[in, text["/a", "/b"]], q ptr[in, text["/a", "/b"]])
call rename(11)(p ptr[in, text["/a", "/b"]], q ptr[in, text["/a", "/b"]])
call truncate(13)(p ptr[in, text["/a", "/b"]], n int8[0, 3])
`)
	n := numbers(2)
	k := met{}
	for range 2500 {
		defects := pick(&n, 7, 1<<n.next(3), 6, 2, 3)
		k.compare(t, &model{x: x, p: grown(&n, x, pick(&n, 4, 12, 40), n.next(3)), defects: defects, picks: picks(&n)})
	}
	k.enough(t, 20, "fault 1", "fault 2", "steps 3", "steps 4", "passes 1", "passes 2", "passes 3", "least already", api.ErrFault.Error())
}

// TestCompareStructs: the same of a table whose references lie deep within arguments.
func TestCompareStructs(t *testing.T) {
	x := compile(t, `
resource fd[int32]: -1, 0, 1
struct pair { n len[b, int16], b data[0, 60], r fd, s fd }
union any { i int8, p pair, l array[fd, 0, 3] }
call open(0)(p ptr[in, text["/a", "/b"]], f const[11, int8]) fd
call write(3)(f fd, p ptr[in, any], n len[p, int32])
call dup2(6)(f fd, g fd) fd
call truncate(13)(p ptr[in, text["/a", "/b"]], n int8[0, 3])
call pipe(14)(p ptr[inout, array[pair, 1, 3]])
call fork(15)() fd
`)
	n := numbers(3)
	k := met{}
	for range 600 {
		k.compare(t, &model{x: x, p: grown(&n, x, 40, 0), defects: pick(&n, 63, 1<<n.next(6), n.next(64)), picks: picks(&n)})
	}
	k.enough(t, 20, "fault 2", "fault 3", "fault 4", "least already", api.ErrFault.Error())
}
