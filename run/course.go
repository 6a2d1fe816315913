package run

import (
	"slices"

	"dredger/api"
	"dredger/kernel"
	"dredger/oracle"
)

const (
	first  = 1 // the process that there is at the beginning
	nobody = 0
)

// course is a run, as far as it got.
type course struct {
	program []api.Exec
	kernel  *kernel.Kernel
	procs   map[int]*process // by their numbers; one that is over stands there till another one has its number
	report  api.Report
}

// begin is a run of a program ahead of its first turn.
func begin(l []api.Exec, defects int) *course {
	return &course{program: l, kernel: kernel.New(defects), procs: map[int]*process{first: {}}}
}

// goOn takes all turns.
func (c *course) goOn(picks []int) {
	// However the run ends, its points are told in order.
	defer c.sortPoints()
turns:
	for turn := range api.MaxSteps {
		switch pid := c.next(picks, turn); {
		case pid == nobody:
			break turns
		case c.procs[pid].step == len(c.program):
			c.exit(pid)
		default:
			c.step(pid)
		}
		if c.report.Fault = oracle.Check(c.kernel); c.report.Fault != 0 {
			return
		}
	}
	c.report.Cut = len(c.kernel.Procs().Running()) > 0
}

// next is the process that goes on at a turn; nobody, if none can.
func (c *course) next(picks []int, turn int) int {
	ready := slices.DeleteFunc(c.kernel.Procs().Running(), func(pid int) bool { return c.procs[pid].waits })
	if len(ready) == 0 {
		return nobody
	}
	if turn >= len(picks) {
		return ready[0]
	}
	return ready[uint64(picks[turn])%uint64(len(ready))]
}

// exit ends a process that is at the program's end.
func (c *course) exit(pid int) {
	c.kernel.Call(pid, api.CallExit, nil)
	c.wake()
}

// step does a process's step, or lets it wait there.
func (c *course) step(pid int) {
	p := c.procs[pid]
	x := c.program[p.step]
	p.lay(x.Copies, c.kernel.Space(pid))
	value, why, waits := c.kernel.Call(pid, x.Number, p.words(x.Words))
	c.report.Points = append(c.report.Points, kernel.Point(x.Number, why, waits))
	if waits {
		p.waits = true
		return
	}
	c.wake()
	c.report.Results = append(c.report.Results, api.Result{Proc: pid, Step: p.step, Value: value, Err: why})
	if x.Number == api.CallFork && why == 0 {
		c.procs[value] = p.child()
	}
	p.pass(value, why)
}

// wake lets all processes that wait try again, as what they wait for may have come about.
func (c *course) wake() {
	for _, p := range c.procs {
		p.waits = false
	}
}

func (c *course) sortPoints() {
	slices.Sort(c.report.Points)
	c.report.Points = slices.Compact(c.report.Points)
}
