package mutate

import (
	"slices"

	"dredger/api"
	"dredger/below"
	"dredger/draw"
	"dredger/gen"
	"dredger/layout"
	"dredger/prog"
	"dredger/walk"
)

// job is a program that is to be mutated, and what is needed for it.
type job struct {
	*draw.Draws
	table          api.Table
	choice         *draw.Choice // only where a call is picked
	program, other api.Program
	most           int // steps that there may be
}

// mutator is a way to mutate a program.
type mutator struct {
	idle func(job) bool // it leaves the program as it is, and takes no draw
	do   func(job) (api.Program, api.Errno)
}

// Places of the mutators.
const (
	inserts = iota
	removes
	changes
	splices
)

// mutators is all of them, in the order in which they are drawn.
func mutators() []mutator {
	return []mutator{
		inserts: {job.isFull, job.insert},
		removes: {job.isEmpty, job.remove},
		changes: {job.isEmpty, job.change},
		splices: {job.never, job.splice},
	}
}

// mutated is a program that was mutated by one of the mutators. Which one it is is asked only when nothing is wrong: an error takes no draw.
func mutated(j job, which func(n int) int) (api.Program, api.Errno) {
	if why := j.wrong(); why != api.OK {
		return nil, why
	}
	l := mutators()
	m := l[which(len(l))]
	if m.idle(j) {
		return prog.Copy(j.program), api.OK
	}
	return m.do(j)
}

// wrong is what is wrong with the draws, or with one of the programs.
func (j job) wrong() api.Errno {
	if !j.Made() {
		return api.ErrNil
	}
	for _, p := range []api.Program{j.program, j.other} {
		if why := below.Number(prog.Check(j.table, p)); why != api.OK {
			return why
		}
	}
	return api.OK
}

func (j job) isEmpty() bool { return len(j.program) == 0 }

func (j job) isFull() bool { return len(j.program) >= j.most || len(j.table.Calls) == 0 }

func (j job) never() bool { return false }

func (j job) insert() (api.Program, api.Errno) {
	i := j.Next(len(j.program) + 1)
	last := -1
	if i > 0 {
		last = j.program[i-1].Call
	}
	call, _ := j.choice.Pick(j.Draws, last)
	s, why := gen.Step(j.table, call, j.program[:i], j.Draws)
	if why != api.OK {
		return nil, why
	}
	return prog.Insert(j.table, j.program, i, s)
}

func (j job) remove() (api.Program, api.Errno) {
	return prog.Remove(j.table, j.program, j.Next(len(j.program)))
}

func (j job) change() (api.Program, api.Errno) {
	p := prog.Copy(j.program)
	i := j.Next(len(p))
	places := j.table.Calls[p[i].Call].Args
	if len(places) == 0 {
		return p, api.OK
	}
	k := j.Next(len(places))
	a, why := gen.Arg(j.table, places[k], p[:i], j.Draws)
	if why != api.OK {
		return nil, why
	}
	p[i].Args[k] = a
	return layout.Fix(j.table, p)
}

func (j job) splice() (api.Program, api.Errno) {
	p := prog.Copy(j.program)
	i := j.Next(len(p) + 1)
	q := prog.Copy(j.other[:min(len(j.other), max(0, j.most-len(p)))])
	move(q, 0, i)
	move(p[i:], i, len(q))
	return slices.Concat(p[:i], q, p[i:]), api.OK
}

// move lets the references of steps to places from one on name places further on.
func move(p api.Program, from, by int) {
	for _, s := range p {
		walk.Through(api.Table{}, walk.Row{Args: s.Args}, func(s walk.Spot) bool {
			if s.Arg.Kind == api.ArgRef && s.Arg.Value >= from {
				s.Arg.Value += by
			}
			return true
		})
	}
}
