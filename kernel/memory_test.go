package kernel_test

import (
	"slices"
	"testing"

	"dredger/api"
	"dredger/kernel"
)

func TestObjects(t *testing.T) {
	for what, k := range map[string]*kernel.Kernel{"nil": nil, "a plain one": {}} {
		for _, pid := range []int{-1 << 63, -1, 0, 1, 2, api.MaxProcs + 1, 1<<63 - 1} {
			for number := -1; number <= api.NumCalls; number++ {
				if v, e, waits := k.Call(pid, number, []int{4096, 1, 1}); v != 0 || e != api.EINVAL || waits {
					t.Errorf("%s: process %d, call %d: %d, %v, %v", what, pid, number, v, e, waits)
				}
			}
			if k.Space(pid) != nil {
				t.Errorf("%s: Space(%d)", what, pid)
			}
		}
		if k.Files() != nil || k.Procs() != nil {
			t.Errorf("%s: Files or Procs", what)
		}
	}
}

// TestWordsAreLeft: a call changes no words, nor the room behind them, and looks at none of these.
func TestWordsAreLeft(t *testing.T) {
	for number := range api.NumCalls {
		m, other := furnished(t, 0), furnished(t, 0)
		for _, x := range []machine{m, other} {
			x.does(0, 1, api.CallOpen, atA, api.FlagRead|api.FlagWrite)
			x.does(1, 1, api.CallOpen, atA, api.FlagRead|api.FlagWrite)
		}
		for _, list := range [][]int{{0, atFree, 3}, {atA, atB, 3}, {atFree, 1, 1}} {
			for n := range 4 {
				words := append(slices.Clone(list), -7, -7)
				room := slices.Concat(list[:n], []int{atNone, atIn, 5, 6})
				v, e, waits := m.Call(1, number, words[:n])
				if !slices.Equal(words, append(slices.Clone(list), -7, -7)) {
					t.Errorf("call %d has changed its words: %v", number, words)
				}
				if w, f, must := other.Call(1, number, room[:n]); v != w || e != f || waits != must || !same(stateOf(m.Kernel), stateOf(other.Kernel)) {
					t.Errorf("call %d looks behind its %d words", number, n)
				}
				if len(m.Procs().Running()) == 0 {
					m, other = furnished(t, 0), furnished(t, 0)
				}
			}
		}
	}
}

// TestKernelsAreApart: what one does another one can't tell.
func TestKernelsAreApart(t *testing.T) {
	one, two := newMachine(t, 0), newMachine(t, 0)
	before := stateOf(two.Kernel)
	one.put(1, 4096, "/a")
	one.does(0, 1, api.CallOpen, 4096, api.FlagMake|api.FlagRead)
	one.does(2, 1, api.CallFork)
	if !same(stateOf(two.Kernel), before) {
		t.Error("two kernels share something")
	}
}
