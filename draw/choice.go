package draw

import (
	"slices"

	"dredger/api"
)

// How much a call is wanted.
const (
	plainly   = 1  // in any case
	forUse    = 4  // more, if it takes what the call ahead of it makes
	eachTime  = 2  // more for each time that it stood there
	mostTimes = 10 // that count
)

// start is what stands ahead of a program's first call.
const start = -1

// Choice is how much each call is wanted behind another one.
type Choice struct {
	made  bool // false: no call made this choice
	calls []call
	times map[pair]int // how often the programs have a pair; one that they have not is none of the keys
}

// call is resources that a call makes and takes.
type call struct {
	makes string // empty: none
	takes []string
}

// pair is two calls, the second one directly behind the first.
type pair struct{ ahead, behind int }

// Weigh is that of a table, and of programs that are liked.
func Weigh(t api.Table, l []api.Program) *Choice {
	c := &Choice{made: true, times: map[pair]int{}}
	for _, x := range t.Calls {
		c.calls = append(c.calls, call{x.Ret, taken(t, x)})
	}
	for _, p := range l {
		c.count(p)
	}
	return c
}

// taken is the resources that a call's arguments are, or point to.
func taken(t api.Table, c api.Call) []string {
	var l []string
	for _, n := range c.Args {
		y := typeAt(t, n)
		if y.Kind == api.TypePtr && len(y.Elems) > 0 {
			y = typeAt(t, y.Elems[0])
		}
		if y.Kind == api.TypeRes {
			l = append(l, y.Of)
		}
	}
	return l
}

// typeAt is the type at a place; one of no kind, where the table has none.
func typeAt(t api.Table, n int) api.Type {
	if n < 0 || n >= len(t.Types) {
		return api.Type{}
	}
	return t.Types[n]
}

// count counts the pairs of a program, which may have calls that there are not, below 0 among them.
func (c *Choice) count(p api.Program) {
	for i, s := range p {
		at := pair{start, s.Call}
		if i > 0 {
			at.ahead = p[i-1].Call
		}
		if c.has(at.behind) && (i == 0 || c.has(at.ahead)) {
			c.times[at]++
		}
	}
}

// has: is there such a call?
func (c *Choice) has(n int) bool { return n >= 0 && n < len(c.calls) }

// Made tells whether a call made the choice; one of a table without calls weighs as little as one that none made.
func (c *Choice) Made() bool { return c != nil && c.made }

// Weight is how much call b is wanted behind call a (below 0: at the beginning).
func (c *Choice) Weight(a, b int) int {
	a = max(a, start)
	if !c.Made() || !c.has(b) || a != start && !c.has(a) {
		return 0
	}
	w := plainly + eachTime*min(c.times[pair{a, b}], mostTimes)
	if a != start && c.calls[b].uses(c.calls[a]) {
		w += forUse
	}
	return w
}

// uses: does a call take what another one makes?
func (c call) uses(other call) bool {
	return other.makes != "" && slices.Contains(c.takes, other.makes)
}

// Pick is a call, drawn by how much each one is wanted behind call a.
func (c *Choice) Pick(d *Draws, a int) (int, bool) {
	if !c.Made() || !d.Made() {
		return 0, false
	}
	sum := 0
	for b := range c.calls {
		sum += c.Weight(a, b)
	}
	if sum == 0 {
		return 0, false
	}
	left, b := d.Next(sum), 0
	for left >= c.Weight(a, b) {
		left -= c.Weight(a, b)
		b++
	}
	return b, true
}
