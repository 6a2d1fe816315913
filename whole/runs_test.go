package whole_test

import (
	"maps"
	"math/big"
	"slices"

	"dredger/api"
)

// broken is the first rule that is; 0: none.
func (w *world) broken() int {
	for i, holds := range []func() bool{w.linksHold, w.blocksHold, w.pipesHold, w.heldHolds, w.opensHold} {
		if !holds() {
			return i + 1
		}
	}
	return 0
}

func (w *world) linksHold() bool {
	named := map[int]int{1: 1}
	for _, x := range w.nodes {
		for _, n := range x.names {
			named[n]++
		}
	}
	for n := range named {
		if w.nodes[n] == nil {
			return false
		}
	}
	for n, x := range w.nodes {
		if x.links != named[n] {
			return false
		}
	}
	return true
}

func (w *world) blocksHold() bool {
	var all []int
	for _, x := range w.nodes {
		all = append(all, x.blocks...)
		if len(x.blocks) != (len(x.data)+15)/16 {
			return false
		}
	}
	slices.Sort(all)
	return slices.Equal(all, slices.Sorted(maps.Keys(w.taken)))
}

// openOf counts the open files of a kind, by what they are of.
func (w *world) openOf(kind int) map[int]int {
	count := map[int]int{}
	for _, o := range w.opens {
		if o.kind == kind {
			count[o.of]++
		}
	}
	return count
}

func (w *world) pipesHold() bool {
	readers, writers := w.openOf(api.OpenRead), w.openOf(api.OpenWrite)
	for n, p := range w.pipes {
		if p.readers != readers[n] || p.writers != writers[n] {
			return false
		}
	}
	for _, count := range []map[int]int{readers, writers} {
		for n := range count {
			if w.pipes[n] == nil {
				return false
			}
		}
	}
	return true
}

func (w *world) heldHolds() bool {
	count := map[int]int{}
	for _, p := range w.procs {
		for _, o := range p.fds {
			if o == 0 {
				continue
			}
			if count[o]++; w.opens[o] == nil {
				return false
			}
		}
	}
	for n, o := range w.opens {
		if o.held != count[n] || o.held == 0 {
			return false
		}
	}
	return true
}

func (w *world) opensHold() bool {
	count := w.openOf(api.OpenFile)
	for n := range count {
		if w.nodes[n] == nil {
			return false
		}
	}
	for n, x := range w.nodes {
		if x.held != count[n] || !x.dir && x.links == 0 && x.held == 0 {
			return false
		}
	}
	return true
}

// ready is the processes that can go on, and whether any runs.
func (w *world) ready() (l []int, runs bool) {
	for n := range 5 {
		if w.runs(n) {
			runs = true
			if !w.procs[n].waits {
				l = append(l, n)
			}
		}
	}
	return l, runs
}

func (w *world) wake() {
	for _, p := range w.procs {
		p.waits = false
	}
}

// chosen is one of n, by the pick of a turn.
func chosen(picks []int, turn, n int) int {
	if turn >= len(picks) {
		return 0
	}
	pick := big.NewInt(int64(picks[turn]))
	// Mod is never below 0, but the picks count from 2^64 down.
	if pick.Sign() < 0 {
		pick.Add(pick, new(big.Int).Lsh(big.NewInt(1), 64))
	}
	return int(pick.Mod(pick, big.NewInt(int64(n))).Int64())
}

// modelRun is what a run comes to.
func modelRun(l []api.Exec, defects int, picks []int) (r api.Report) {
	w := newWorld(defects)
	points := map[int]bool{}
	for turn := 0; r.Fault == 0; turn++ {
		ready, runs := w.ready()
		if len(ready) == 0 || turn == 400 {
			r.Cut = runs
			break
		}
		pid := ready[chosen(picks, turn, len(ready))]
		if w.procs[pid].step == len(l) {
			w.exit(pid, 0)
			w.wake()
		} else {
			w.take(pid, l[w.procs[pid].step], &r, points)
		}
		r.Fault = w.broken()
	}
	r.Points = slices.Sorted(maps.Keys(points))
	return r
}

// take does the step at which a process is.
func (w *world) take(pid int, x api.Exec, r *api.Report, points map[int]bool) {
	p := w.procs[pid]
	known := func(ref, value int) int {
		if v, ok := p.known[ref]; ok && ref >= 0 {
			return v
		}
		return value
	}
	for _, c := range x.Copies {
		b := slices.Clone(c.Bytes)
		v := known(c.Ref, c.Value)
		for range c.Size {
			b = append(b, byte(v))
			v >>= 8
		}
		if isPart(c.Addr, len(b)) {
			p.put(c.Addr, b)
		}
	}
	var words []int
	for _, word := range x.Words {
		words = append(words, known(word.Ref, word.Value))
	}
	value, e, waits := w.call(pid, x.Number, words)
	switch {
	case waits:
		points[x.Number*64+63] = true
		p.waits = true
		return
	case x.Number < 20:
		points[x.Number*64+int(e)] = true
	default:
		points[0] = true
	}
	r.Results = append(r.Results, api.Result{Proc: pid, Step: p.step, Value: value, Err: e})
	w.wake()
	if x.Number == api.CallFork && e == 0 {
		c := w.procs[value]
		c.known = maps.Clone(p.known)
		c.known[p.step], c.step = 0, p.step+1
	}
	if e == 0 {
		p.known[p.step] = value
	}
	p.step++
}
