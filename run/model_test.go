package run_test

import (
	"math/big"
	"slices"

	"dredger/api"
	"dredger/kernel"
	"dredger/oracle"
)

// The model keeps no results of its processes: it looks them up in what was done so far, and asks a process's parent for what was done ahead of the fork.

// being is a process; another one that has its number later is another being.
type being struct {
	number, step int
	parent       *being
	born         int // the step of the fork that made it; -1: none did
}

type deed struct {
	by *being
	api.Result
}

type model struct {
	kernel  *kernel.Kernel
	program []api.Exec
	beings  []*being // of those with one number the last one is meant
	blocked []*being
	deeds   []deed
	points  []int
	fault   int
	cut     bool
	turns   int
	ended   bool // the last turn was one at the program's end
}

// modelRun is a run of at most so many turns.
func modelRun(l []api.Exec, defects int, picks []int, bound int) *model {
	m := &model{kernel: kernel.New(defects), program: l, beings: []*being{{number: 1, born: -1}}}
	for m.turn(picks, bound) {
	}
	return m
}

func (m *model) report() api.Report {
	r := api.Report{Fault: m.fault, Cut: m.cut}
	for _, d := range m.deeds {
		r.Results = append(r.Results, d.Result)
	}
	for p := range 64 * 64 {
		if slices.Contains(m.points, p) {
			r.Points = append(r.Points, p)
		}
	}
	return r
}

func (m *model) being(number int) *being {
	for _, b := range slices.Backward(m.beings) {
		if b.number == number {
			return b
		}
	}
	return nil
}

// turn is a turn; false: the run has ended.
func (m *model) turn(picks []int, bound int) bool {
	var free []*being
	running := m.kernel.Procs().Running()
	for _, number := range running {
		if b := m.being(number); !slices.Contains(m.blocked, b) {
			free = append(free, b)
		}
	}
	if len(free) == 0 || m.turns == bound {
		m.cut = len(running) > 0
		return false
	}
	pick := new(big.Int)
	if m.turns < len(picks) {
		pick.SetInt64(int64(picks[m.turns]))
	}
	if pick.Sign() < 0 {
		pick.Add(pick, new(big.Int).Lsh(big.NewInt(1), 64))
	}
	m.turns++
	b := free[pick.Mod(pick, big.NewInt(int64(len(free)))).Int64()]
	m.ended = b.step == len(m.program)
	if !m.ended {
		m.do(b, m.program[b.step])
	} else {
		m.kernel.Call(b.number, api.CallExit, []int{0})
		m.blocked = nil
	}
	m.fault = oracle.Check(m.kernel)
	return m.fault == 0
}

// find is the result of a step for a process.
func (m *model) find(b *being, step int) (int, bool) {
	for _, d := range m.deeds {
		if d.by == b && d.Step == step {
			return d.Value, d.Err == 0
		}
	}
	switch {
	case b.born == step:
		return 0, true
	case b.born > step:
		return m.find(b.parent, step)
	}
	return 0, false
}

func (m *model) value(b *being, ref, value int) int {
	if ref < 0 {
		return value
	}
	if v, ok := m.find(b, ref); ok {
		return v
	}
	return value
}

func (m *model) do(b *being, x api.Exec) {
	for _, c := range x.Copies {
		bytes := c.Bytes
		if c.Ref >= 0 {
			v := m.value(b, c.Ref, c.Value)
			for range c.Size {
				bytes = append(bytes, byte(v))
				v >>= 8
			}
		}
		m.kernel.Space(b.number).Out(c.Addr, bytes)
	}
	var words []int
	for _, w := range x.Words {
		words = append(words, m.value(b, w.Ref, w.Value))
	}
	v, e, waits := m.kernel.Call(b.number, x.Number, words)
	if waits {
		m.points = append(m.points, x.Number*64+63)
		m.blocked = append(m.blocked, b)
		return
	}
	if x.Number < api.NumCalls {
		m.points = append(m.points, x.Number*64+int(e))
	} else {
		m.points = append(m.points, 0)
	}
	m.blocked = nil
	m.deeds = append(m.deeds, deed{b, api.Result{Proc: b.number, Step: b.step, Value: v, Err: e}})
	if x.Number == api.CallFork && e == 0 {
		m.beings = append(m.beings, &being{number: v, step: b.step + 1, parent: b, born: b.step})
	}
	b.step++
}
