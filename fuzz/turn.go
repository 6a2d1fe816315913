package fuzz

import (
	"errors"
	"strconv"

	"dredger/api"
	"dredger/corpus"
	"dredger/draw"
	"dredger/gen"
	"dredger/mutate"
	"dredger/run"
	"dredger/shrink"
	"dredger/text"
)

const (
	kinds       = 4 // of turns; all but one mutate
	anew        = 0 // the one that draws a program
	mostDrawn   = 10
	mostMutated = 16
	mostPicks   = 40
	pickBelow   = 4
	mostKeys    = 100 // of programs
)

// Words for what a turn did; behind some of them stands of what.
const (
	skip    = "skip"
	old     = "old "
	fault   = "fault "
	nothing = "nothing"
	fresh   = "new "
	full    = "full"
)

// turn is a turn of a loop, and what the corpus had ahead of it.
type turn struct {
	*Loop
	taken    map[string]struct{} // keys
	programs []api.Program       // that may be mutated
	choice   *draw.Choice
	draws    *draw.Draws
	picks    []int
}

// begin is a turn ahead of its first draw.
func (l *Loop) begin(draws, picks []int) turn {
	t := turn{Loop: l, taken: map[string]struct{}{}, draws: draw.New(draws), picks: small(picks)}
	for _, e := range l.Entries() {
		t.taken[e.Key] = struct{}{}
		// A disk may hold programs of other tables.
		if p, err := text.Parse(l.table, e.Program); err == nil && e.Fault == 0 {
			t.programs = append(t.programs, p)
		}
	}
	t.choice = draw.Weigh(l.table, t.programs)
	return t
}

// small is the picks that play a part, as the corpus may keep them.
func small(picks []int) []int {
	l := make([]int, min(len(picks), mostPicks))
	for i := range l {
		l[i] = int(uint64(picks[i]) % pickBelow)
	}
	return l
}

// take does the turn, and says what it did.
func (t turn) take() string {
	p, why := t.program()
	if why != api.OK {
		return skip
	}
	r, why := run.Program(t.table, p, t.defects, t.picks)
	switch {
	case why != api.OK:
		return skip
	case r.Fault != 0:
		return t.report(p, r.Fault)
	}
	return t.cover(p, r.Points)
}

// program is the one that the turn is about.
func (t turn) program() (api.Program, api.Errno) {
	switch t.draws.Next(kinds) {
	default:
		if n := len(t.programs); n > 0 {
			p := t.programs[t.draws.Next(n)]
			q := t.programs[t.draws.Next(n)]
			return mutate.Mutate(t.table, t.choice, p, q, t.draws, mostMutated)
		}
		// There is nothing yet that could be mutated.
		fallthrough
	case anew:
		return gen.Program(t.table, t.choice, t.draws, mostDrawn)
	}
}

// report keeps the least of a program that reports a fault, if that is the first one to do so.
func (t turn) report(p api.Program, number int) string {
	digits := strconv.Itoa(number)
	key := "f" + digits
	if _, ok := t.taken[key]; ok {
		return old + digits
	}
	least, _, err := shrink.Shrink(t.table, p, t.defects, t.picks)
	var wrong api.Fault
	if errors.As(err, &wrong) {
		return skip
	}
	return t.keep(least, api.Entry{Key: key, Fault: number, Picks: t.picks}, fault+digits)
}

// cover keeps a program that comes to points that no other one came to.
func (t turn) cover(p api.Program, points []int) string {
	if len(corpus.Without(points, t.corpus.Points())) == 0 {
		return nothing
	}
	key, ok := t.free()
	if !ok {
		return full
	}
	return t.keep(p, api.Entry{Key: key, Points: points}, fresh+key)
}

// free is the first key of a program that is not taken.
func (t turn) free() (string, bool) {
	for n := range mostKeys {
		key := "p" + strconv.Itoa(n/10) + strconv.Itoa(n%10)
		if _, ok := t.taken[key]; !ok {
			return key, true
		}
	}
	return "", false
}

// keep puts a program into the corpus, as an entry that has all else, and answers the words for it.
func (t turn) keep(p api.Program, e api.Entry, words string) string {
	s, why := text.Print(t.table, p)
	if why != api.OK {
		return skip
	}
	e.Program = s
	if t.corpus.Put(e) != api.OK {
		return full
	}
	return words
}
