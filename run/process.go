package run

import (
	"dredger/api"
	"dredger/mem"
)

// process is a process of a run.
type process struct {
	step    int // at which it is
	waits   bool
	results [api.MaxCalls]result // by their steps
}

// result is what a step came to for a process.
type result struct {
	there bool
	value int
}

// lay puts copies into the memory. What does not lie within is left out.
func (p *process) lay(l []api.Copy, s *mem.Space) {
	for _, c := range l {
		b := c.Bytes
		if c.Ref >= 0 {
			b = mem.Little(p.result(c.Ref, c.Value), c.Size)
		}
		s.Out(c.Addr, b)
	}
}

// words is the words of a call as the kernel is given them.
func (p *process) words(l []api.Word) []int {
	numbers := make([]int, len(l))
	for i, w := range l {
		numbers[i] = p.result(w.Ref, w.Value)
	}
	return numbers
}

// result is the result of a step; another value, if there is none.
func (p *process) result(step, other int) int {
	if step >= 0 && p.results[step].there {
		return p.results[step].value
	}
	return other
}

// pass goes to the next step. A step that came to an error has no result.
func (p *process) pass(value int, why api.Err) {
	if why == 0 {
		p.results[p.step] = result{true, value}
	}
	p.step++
}

// child is what a process that does a fork makes: it has gone as far as its parent, but is told 0.
func (p *process) child() *process {
	c := *p
	c.pass(0, 0)
	return &c
}
