package shrink

import (
	"dredger/api"
	"dredger/prog"
	"dredger/run"
)

// none is the fault of a run that reports none, or that can't be.
const none = 0

// trials is runs of programs, all with the same defects and picks.
type trials struct {
	table   api.Table
	defects int
	picks   []int
	count   int // how many there were
}

// fault is what a program reports.
func (l *trials) fault(p api.Program) (int, api.Errno) {
	l.count++
	r, why := run.Program(l.table, p, l.defects, l.picks)
	return r.Fault, why
}

// without is a program without one of its steps, and the fault that it reports.
func (l *trials) without(p api.Program, i int) (api.Program, int, api.Errno) {
	q, why := prog.Remove(l.table, p, i)
	if why != api.OK {
		return nil, none, why
	}
	fault, why := l.fault(q)
	return q, fault, why
}

// shorten takes steps out of a program as long as it reports the same fault.
func (l *trials) shorten(p api.Program, fault int) api.Program {
	// A step that was needed may be so no more without those ahead of it, which are tried later: one pass does not do.
	for before := len(p) + 1; len(p) < before; {
		before = len(p)
		for i := len(p) - 1; i >= 0; i-- {
			if q, same, _ := l.without(p, i); same == fault {
				p = q
			}
		}
	}
	return p
}
