package oracle_test

import (
	"math"
	"slices"
	"testing"

	"dredger/api"
	"dredger/kernel"
	"dredger/oracle"
)

// call makes some call of some process.
func (n *numbers) call(k *kernel.Kernel) {
	path := func() int { return pick(n, atA, atA, atB, atDir, atNone, atIn, atIn, atFree) }
	fd := func() int { return n.next(api.MaxFDs + 1) }
	number := n.next(api.NumCalls)
	words := []int{fd(), atFree, n.next(30)}
	switch number {
	case api.CallOpen:
		words = []int{path(), pick(n, 3, 10, 11, 11, 43, 9, n.next(64))}
	case api.CallSeek:
		words = []int{fd(), n.next(40), n.next(3)}
	case api.CallDup2:
		words = []int{fd(), fd()}
	case api.CallLink, api.CallRename:
		words = []int{path(), path()}
	case api.CallUnlink, api.CallMkdir, api.CallRmdir:
		words = []int{path()}
	case api.CallStat, api.CallTruncate:
		words = []int{path(), pick(n, 0, 5, 17, 90, atFree)}
	case api.CallPipe, api.CallWait:
		words = []int{pick(n, atFree, atFree, 0)}
	case api.CallExit, api.CallKill:
		// Else all processes were over soon.
		if n.next(4) != 0 {
			return
		}
		words = []int{n.next(api.MaxProcs) + 1}
	}
	k.Call(pick(n, 1, 1, 1, 2, 3, 4), number, words)
}

// TestSoundKernel: without defects no rule is broken, behind any calls.
func TestSoundKernel(t *testing.T) {
	most := 0
	for seed := range 150 {
		n := numbers(seed)
		m := newMachine(t, 0)
		for range 300 {
			n.call(m.Kernel)
			m.breaks(0)
			most = max(most, len(m.Files().Look()))
		}
	}
	if most < api.MaxFiles {
		t.Errorf("at most %d files were open", most)
	}
}

// TestCheckOfDefects: Check is the first rule that the model says to be broken, whatever the defects; each rule but the last is that somewhere.
func TestCheckOfDefects(t *testing.T) {
	met := [6]int{}
	for seed := range 256 {
		n := numbers(1000 + seed)
		m := newMachine(t, seed%64)
		for range 60 {
			n.call(m.Kernel)
			l := lookAt(m.Kernel)
			want := first(l.model())
			if got := oracle.Check(m.Kernel); got != want {
				t.Fatalf("seed %d: rule %d is broken, want %d: %+v", seed, got, want, l)
			}
			if got := l.answers(); got != l.model() {
				t.Fatalf("seed %d: %v, want %v: %+v", seed, got, l.model(), l)
			}
			met[want]++
		}
	}
	for rule := range 5 {
		if met[rule] < 100 {
			t.Errorf("rule %d was broken %d times: %v", rule, met[rule], met)
		}
	}
}

// bend changes a number a little, or much.
func (n *numbers) bend(x *int) { *x = pick(n, *x, *x+1, *x-1, 0, 1, 2, -*x, math.MaxInt, math.MinInt) }

// bendOne changes one number of some list.
func (n *numbers) bendOne(list []int) {
	if len(list) > 0 {
		n.bend(&list[n.next(len(list))])
	}
}

// shuffle is a list with one of it left out, or twice, or in another order.
func shuffle[T any](n *numbers, list []T) []T {
	if len(list) == 0 {
		return list
	}
	at, to := n.next(len(list)), n.next(len(list))
	switch n.next(4) {
	case 0:
		return slices.Delete(list, at, at+1)
	case 1:
		return slices.Insert(list, to, list[at])
	case 2:
		list[at], list[to] = list[to], list[at]
	}
	return list
}

// spoil changes something of a look.
func (n *numbers) spoil(l *look) {
	l.nodes, l.used, l.pipes = shuffle(n, l.nodes), shuffle(n, l.used), shuffle(n, l.pipes)
	l.open, l.procs = shuffle(n, l.open), shuffle(n, l.procs)
	if n.next(3) == 0 {
		n.bendOne(l.used)
	}
	if len(l.nodes) > 0 {
		x := &l.nodes[n.next(len(l.nodes))]
		switch n.next(5) {
		case 0:
			n.bend(pick(n, &x.Number, &x.Kind, &x.Links, &x.Size, &x.Held))
		case 1:
			x.Blocks = shuffle(n, slices.Clone(x.Blocks))
			n.bendOne(x.Blocks)
		case 2:
			x.Names, x.Nodes = shuffle(n, slices.Clone(x.Names)), shuffle(n, slices.Clone(x.Nodes))
			n.bendOne(x.Nodes)
		}
	}
	if len(l.pipes) > 0 {
		x := &l.pipes[n.next(len(l.pipes))]
		n.bend(pick(n, &x.Number, &x.Readers, &x.Writers, &x.Bytes, &x.Bytes))
	}
	if len(l.open) > 0 {
		x := &l.open[n.next(len(l.open))]
		n.bend(pick(n, &x.Number, &x.Kind, &x.Of, &x.Held, &x.Off, &x.Flags))
	}
	if len(l.procs) > 0 {
		x := &l.procs[n.next(len(l.procs))]
		n.bend(pick(n, &x.FDs[n.next(api.MaxFDs)], &x.Number, &x.Parent, &x.State, &x.Code))
	}
}

// TestSpoiltLooks: of what a kernel tells, with changes, each rule is what the model says.
func TestSpoiltLooks(t *testing.T) {
	met := [5][2]int{}
	for seed := range 100 {
		n := numbers(5000 + seed)
		m := newMachine(t, pick(&n, 0, 0, n.next(64)))
		for range 60 {
			n.call(m.Kernel)
			for range 5 {
				l := lookAt(m.Kernel)
				n.spoil(&l)
				got, want := l.answers(), l.model()
				if got != want {
					t.Fatalf("seed %d: %v, want %v: %+v", seed, got, want, l)
				}
				for rule, holds := range got {
					if holds {
						met[rule][1]++
					} else {
						met[rule][0]++
					}
				}
			}
		}
	}
	for rule, x := range met {
		if x[0] < 1000 || x[1] < 1000 {
			t.Errorf("rule %d: broken and held %v times", rule+1, x)
		}
	}
}

// any is a look made by hand of few small numbers, so that they meet.
func (n *numbers) any() look {
	var l look
	small := func() int { return n.next(4) }
	for range n.next(4) {
		x := api.Node{Number: small(), Kind: n.next(3), Links: n.next(3), Size: pick(n, 0, 0, 16, 17, -1), Held: n.next(2)}
		for range n.next(3) {
			x.Blocks = append(x.Blocks, small())
		}
		for range n.next(3) {
			x.Nodes = append(x.Nodes, small())
		}
		x.Names = make([]string, n.next(3))
		l.nodes = append(l.nodes, x)
	}
	for range n.next(3) {
		l.used = append(l.used, small())
	}
	for range n.next(3) {
		l.pipes = append(l.pipes, api.PipeInfo{Number: small(), Readers: n.next(2), Writers: n.next(2)})
	}
	for range n.next(3) {
		l.open = append(l.open, api.OpenInfo{Number: small(), Kind: n.next(5), Of: small(), Held: n.next(3)})
	}
	for range n.next(3) {
		x := api.ProcInfo{Number: small()}
		for range n.next(3) {
			x.FDs[n.next(api.MaxFDs)] = small()
		}
		l.procs = append(l.procs, x)
	}
	return l
}

// TestAnyLooks: of lists that no kernel tells each rule is what the model says.
func TestAnyLooks(t *testing.T) {
	n := numbers(9)
	met := [5][2]int{}
	for range 60000 {
		l := n.any()
		got, want := l.answers(), l.model()
		if got != want {
			t.Fatalf("%v, want %v: %+v", got, want, l)
		}
		for rule, holds := range got {
			if holds {
				met[rule][1]++
			} else {
				met[rule][0]++
			}
		}
	}
	for rule, x := range met {
		if x[0] < 1000 || x[1] < 1000 {
			t.Errorf("rule %d: broken and held %v times", rule+1, x)
		}
	}
}
