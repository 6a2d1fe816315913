package oracle_test

import (
	"slices"
	"testing"

	"dredger/api"
	"dredger/kernel"
	"dredger/oracle"
)

// numbers is a source of the same numbers each time.
type numbers uint64

func (n *numbers) next(below int) int {
	*n = *n*6364136223846793005 + 1442695040888963407
	return int(uint64(*n)>>33) % below
}

// pick is one of a list.
func pick[T any](n *numbers, list ...T) T { return list[n.next(len(list))] }

// look is all that the rules are asked of.
type look struct {
	nodes []api.Node
	used  []int
	pipes []api.PipeInfo
	open  []api.OpenInfo
	procs []api.ProcInfo
}

func lookAt(k *kernel.Kernel) look {
	f := k.Files()
	return look{f.Nodes(), f.Blocks(), f.Pipes(), f.Look(), k.Procs().Look()}
}

// answers is what each rule tells of it, in their order.
func (l look) answers() [5]bool {
	return [5]bool{oracle.Links(l.nodes), oracle.Blocks(l.nodes, l.used), oracle.Pipes(l.pipes, l.open), oracle.Held(l.open, l.procs), oracle.Opens(l.nodes, l.open)}
}

// model is what the model of each rule tells of it.
func (l look) model() [5]bool {
	return [5]bool{modelLinks(l.nodes), modelBlocks(l.nodes, l.used), modelPipes(l.pipes, l.open), modelHeld(l.open, l.procs), modelOpens(l.nodes, l.open)}
}

// first is the number of the first rule that does not hold; 0: all do.
func first(holds [5]bool) int { return slices.Index(holds[:], false) + 1 }

// machine is a kernel under test, with paths in the memory of process 1.
type machine struct {
	*kernel.Kernel
	t *testing.T
}

// Addresses of texts in a machine.
const (
	atA    = 4100 + 20*iota // "/a", a file of 20 bytes
	atB                     // "/b", an empty file
	atDir                   // "/d", a directory
	atNone                  // "/n", which is not there
	atIn                    // "/d/x", which is not there either
	atFree
)

func newMachine(t *testing.T, defects int) machine {
	t.Helper()
	m := machine{kernel.New(defects), t}
	for addr, text := range map[int]string{atA: "/a\x00", atB: "/b\x00", atDir: "/d\x00", atNone: "/n\x00", atIn: "/d/x\x00"} {
		if e := m.Space(1).Out(addr, []byte(text)); e != 0 {
			t.Fatal(e)
		}
	}
	m.does(0, 1, api.CallMkdir, atDir)
	m.does(0, 1, api.CallOpen, atA, api.FlagMake|api.FlagWrite)
	m.does(20, 1, api.CallWrite, 0, atFree, 20)
	m.does(0, 1, api.CallClose, 0)
	m.does(0, 1, api.CallOpen, atB, api.FlagMake|api.FlagWrite)
	m.does(0, 1, api.CallClose, 0)
	return m
}

// does makes a call of a process that must come to a value.
func (m machine) does(want, pid, number int, words ...int) {
	m.t.Helper()
	if v, e, waits := m.Call(pid, number, words); v != want || e != 0 || waits {
		m.t.Fatalf("process %d, call %d of %v: %d, %v, %v, want %d", pid, number, words, v, e, waits, want)
	}
}

// breaks asks for the first rule that is broken.
func (m machine) breaks(want int) {
	m.t.Helper()
	if got := oracle.Check(m.Kernel); got != want {
		m.t.Fatalf("rule %d is broken, want %d: %+v", got, want, lookAt(m.Kernel))
	}
}
