package kernel_test

import (
	"testing"

	"dredger/api"
	"dredger/kernel"
)

// broken is the first rule of layer 11 that a kernel breaks; 0: none.
func broken(k *kernel.Kernel) int {
	nodes, open, f := k.Files().Nodes(), k.Files().Look(), k.Files()
	for i, holds := range []bool{links(nodes), blocks(nodes, f.Blocks()), pipes(f.Pipes(), open), held(open, k.Procs().Look()), opens(nodes, open)} {
		if !holds {
			return i + 1
		}
	}
	return 0
}

// links: a node but the root has as many as names name it; each name names a node that is there.
func links(nodes []api.Node) bool {
	count := map[int]int{1: 1}
	for _, n := range nodes {
		for _, of := range n.Nodes {
			count[of]++
		}
	}
	for _, n := range nodes {
		if count[n.Number] != n.Links {
			return false
		}
		delete(count, n.Number)
	}
	return len(count) == 0
}

// blocks: those of all files are the allocated ones, each once, and as many as the sizes need.
func blocks(nodes []api.Node, used []int) bool {
	count := map[int]int{}
	for _, b := range used {
		count[b]++
	}
	for _, n := range nodes {
		if n.Kind == api.NodeFile && len(n.Blocks) != (n.Size+api.Block-1)/api.Block {
			return false
		}
		for _, b := range n.Blocks {
			count[b]--
		}
	}
	for _, c := range count {
		if c != 0 {
			return false
		}
	}
	return true
}

// pipes: each has as many readers and writers as open files are its ends.
func pipes(all []api.PipeInfo, open []api.OpenInfo) bool {
	count := map[[2]int]int{}
	for _, f := range open {
		count[[2]int{f.Of, f.Kind}]++
	}
	for _, p := range all {
		for kind, want := range map[int]int{api.OpenRead: p.Readers, api.OpenWrite: p.Writers} {
			if count[[2]int{p.Number, kind}] != want {
				return false
			}
			delete(count, [2]int{p.Number, kind})
		}
	}
	for end := range count {
		if end[1] != api.OpenFile {
			return false
		}
	}
	return true
}

// held: each open file is by as many descriptors as have it, at least one.
func held(open []api.OpenInfo, procs []api.ProcInfo) bool {
	count := map[int]int{}
	for _, p := range procs {
		for _, file := range p.FDs {
			count[file]++
		}
	}
	delete(count, 0)
	for _, f := range open {
		if f.Held < 1 || count[f.Number] != f.Held {
			return false
		}
		delete(count, f.Number)
	}
	return len(count) == 0
}

// opens: each node is held as often as open files are of it; each file without links is held.
func opens(nodes []api.Node, open []api.OpenInfo) bool {
	count := map[int]int{}
	for _, f := range open {
		if f.Kind == api.OpenFile {
			count[f.Of]++
		}
	}
	for _, n := range nodes {
		if count[n.Number] != n.Held || n.Links == 0 && n.Held == 0 {
			return false
		}
		delete(count, n.Number)
	}
	return len(count) == 0
}

// TestRulesHold: without defects, behind any calls.
func TestRulesHold(t *testing.T) {
	most, over := 0, 0
	for seed := range 120 {
		compare(t, 50000+seed, 0, 300, func(k *kernel.Kernel, number int, _ answer) {
			if rule := broken(k); rule != 0 {
				t.Fatalf("seed %d: behind call %d rule %d is broken: %v", seed, number, rule, stateOf(k))
			}
			most = max(most, len(k.Files().Look()))
			if len(k.Procs().Running()) == 0 {
				over++
				if len(k.Files().Look()) != 0 {
					t.Fatalf("seed %d: no process runs: %v", seed, stateOf(k))
				}
			}
		})
	}
	if most < api.MaxFiles || over == 0 {
		t.Errorf("at most %d open files, %d times no process ran", most, over)
	}
}

// TestDefects: each has calls that break a rule, and breaks none without it.
func TestDefects(t *testing.T) {
	for defect, x := range map[int]struct {
		rule  int
		calls [][]int
	}{
		api.DefectLinks:  {1, [][]int{{api.CallLink, atA, atNone}, {api.CallUnlink, atA}}},
		api.DefectRename: {1, [][]int{{api.CallRename, atA, atB}}},
		api.DefectBlocks: {2, [][]int{{api.CallTruncate, atA, 0}}},
		api.DefectWriter: {3, [][]int{{api.CallPipe, atFree}, {api.CallClose, 1}}},
		api.DefectFork:   {4, [][]int{{api.CallOpen, atA, api.FlagRead}, {api.CallFork}}},
		api.DefectDup:    {4, [][]int{{api.CallOpen, atA, api.FlagRead}, {api.CallOpen, atA, api.FlagRead}, {api.CallDup2, 0, 1}}},
	} {
		for _, defects := range []int{defect, 63 &^ defect, 0} {
			m := furnished(t, defects)
			for i, c := range x.calls {
				if _, e, _ := m.Call(1, c[0], c[1:]); e != 0 {
					t.Fatalf("defects %d: call %v: %v", defects, c, e)
				}
				want := 0
				if defects == defect && i == len(x.calls)-1 {
					want = x.rule
				}
				if rule := broken(m.Kernel); rule != want {
					t.Errorf("defects %d: behind call %v rule %d is broken, want %d", defects, c, rule, want)
				}
			}
		}
	}
}
