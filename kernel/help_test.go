package kernel_test

import (
	"reflect"
	"slices"
	"strings"
	"testing"

	"dredger/api"
	"dredger/kernel"
)

const end = api.Base + api.Memory

// state is all that can be told of a kernel.
type state struct {
	procs  []api.ProcInfo
	open   []api.OpenInfo
	nodes  []api.Node
	blocks []int
	pipes  []api.PipeInfo
	memory map[int]string // of the processes that run
}

func stateOf(k *kernel.Kernel) state {
	f, p := k.Files(), k.Procs()
	s := state{p.Look(), f.Look(), f.Nodes(), f.Blocks(), f.Pipes(), map[int]string{}}
	for _, pid := range p.Running() {
		s.memory[pid] = string(k.Space(pid).Bytes())
	}
	return s
}

func same(a, b state) bool {
	return slices.Equal(a.procs, b.procs) && slices.Equal(a.open, b.open) && reflect.DeepEqual(a.nodes, b.nodes) &&
		slices.Equal(a.blocks, b.blocks) && slices.Equal(a.pipes, b.pipes) && reflect.DeepEqual(a.memory, b.memory)
}

// machine is a kernel under test; calls are those of process 1, if they name no other.
type machine struct {
	*kernel.Kernel
	t *testing.T
}

func newMachine(t *testing.T, defects int) machine { return machine{kernel.New(defects), t} }

// put lays a text into a process's memory, with a nought behind.
func (m machine) put(pid, addr int, text string) {
	m.t.Helper()
	if e := m.Space(pid).Out(addr, []byte(text+"\x00")); e != 0 {
		m.t.Fatalf("%q at %d: %v", text, addr, e)
	}
}

// is asks for a process's bytes from an address on.
func (m machine) is(pid, addr int, want ...byte) {
	m.t.Helper()
	if b, e := m.Space(pid).In(addr, len(want)); e != 0 || !slices.Equal(b, want) {
		m.t.Errorf("process %d has %v, %v at %d, want %v", pid, b, e, addr, want)
	}
}

// does makes a call of a process that must come to a value.
func (m machine) does(want, pid, number int, words ...int) {
	m.t.Helper()
	if v, e, waits := m.Call(pid, number, words); v != want || e != 0 || waits {
		m.t.Fatalf("process %d, call %d of %v: %d, %v, %v, want %d", pid, number, words, v, e, waits, want)
	}
}

// refuses makes a call that must tell an error, or (of error 0) must wait, and must have changed nothing then.
func (m machine) refuses(want api.Err, pid, number int, words ...int) {
	m.t.Helper()
	before := stateOf(m.Kernel)
	if v, e, waits := m.Call(pid, number, words); v != 0 || e != want || waits != (want == 0) {
		m.t.Errorf("process %d, call %d of %v: %d, %v, %v, want %v", pid, number, words, v, e, waits, want)
	}
	if after := stateOf(m.Kernel); !same(after, before) {
		m.t.Errorf("process %d, call %d of %v has changed something: %v, it was %v", pid, number, words, after, before)
	}
}

func (m machine) mustWait(pid, number int, words ...int) {
	m.t.Helper()
	m.refuses(0, pid, number, words...)
}

// fds asks for a process's descriptors.
func (m machine) fds(pid int, want ...int) {
	m.t.Helper()
	var all [api.MaxFDs]int
	copy(all[:], want)
	for _, p := range m.Procs().Look() {
		if p.Number == pid && p.FDs == all {
			return
		}
	}
	m.t.Errorf("process %d has not the descriptors %v: %v", pid, want, m.Procs().Look())
}

// Addresses where a furnished machine has texts.
const (
	atRoot  = 4100 + 20*iota // "/"
	atA                      // "/a", a file of "abcdef"
	atB                      // "/b", an empty file
	atDir                    // "/d", a directory with a file
	atIn                     // "/d/x", that file
	atNone                   // "/n", which is not there
	atBad                    // "a", no path
	atEmpty                  // ""
	atLong                   // a name that is too long
	atUnder                  // "/a/x", under a file
	atLost                   // "/n/x", in a directory that is not there
	atMuch                   // more than MaxPath bytes
	atData  = 4500           // "abcdef"
	atFree  = 4600           // noughts, till the end's texts
	atTail  = end - 4        // four bytes without a nought
)

// furnished is a machine with files, with texts in the memory of process 1, and without descriptors.
func furnished(t *testing.T, defects int) machine {
	t.Helper()
	m := newMachine(t, defects)
	for addr, text := range map[int]string{
		atRoot: "/", atA: "/a", atB: "/b", atDir: "/d", atIn: "/d/x", atNone: "/n", atBad: "a", atEmpty: "", atLong: "/longest",
		atUnder: "/a/x", atLost: "/n/x", atMuch: strings.Repeat("/ab", 8) + "/", atData: "abcdef",
	} {
		m.put(1, addr, text)
	}
	if e := m.Space(1).Out(atTail, []byte("/abc")); e != 0 {
		t.Fatal(e)
	}
	m.does(0, 1, api.CallMkdir, atDir)
	for _, addr := range []int{atA, atB, atIn} {
		m.does(0, 1, api.CallOpen, addr, api.FlagMake|api.FlagWrite)
		if addr == atA {
			m.does(6, 1, api.CallWrite, 0, atData, 6)
		}
		m.does(0, 1, api.CallClose, 0)
	}
	return m
}

// wrongPaths makes a call of a path at each address that no path can be read from; the word is the path's.
func (m machine) wrongPaths(number, word int, words ...int) {
	m.t.Helper()
	for addr, want := range map[int]api.Err{
		-1 << 63: api.EFAULT, -1: api.EFAULT, 0: api.EFAULT, api.Base - 1: api.EFAULT, end: api.EFAULT, end + 1: api.EFAULT, 1<<63 - 1: api.EFAULT,
		atTail: api.EFAULT, end - 1: api.EFAULT, atMuch: api.ENAME,
	} {
		list := slices.Clone(words)
		list[word] = addr
		m.refuses(want, 1, number, list...)
	}
}

// wrongWalks makes a call of a path at each address of a path that nodes refuse.
func (m machine) wrongWalks(number, word int, words ...int) {
	m.t.Helper()
	for addr, want := range map[int]api.Err{
		atBad: api.EINVAL, atEmpty: api.EINVAL, atLong: api.ENAME, atUnder: api.ENOTDIR, atLost: api.ENOENT,
	} {
		list := slices.Clone(words)
		list[word] = addr
		m.refuses(want, 1, number, list...)
	}
}

// noDescriptors is numbers of no descriptor that a furnished machine has.
func noDescriptors() []int { return []int{-1 << 63, -1, 5, api.MaxFDs, 1 << 32, 1<<63 - 1} }

// nowhere is addresses from which on not even one byte is a part.
func nowhere() []int { return []int{-1 << 63, -1, 1, api.Base - 1, end, end + 1, 1<<63 - 1} }
