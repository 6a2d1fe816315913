package types

import "dredger/api"

const (
	greatest   = 1 << 31 // of all values
	lastNumber = 63      // of calls
)

// checker holds declarations against the rules; the first one that breaks a rule makes it give up.
type checker struct {
	decls   []api.Decl
	at      int            // the declaration that is looked at
	named   map[string]int // places of all declarations but calls
	calls   map[string]int // places of calls
	numbers map[int]int    // places of calls, by their numbers
	fields  map[string]int // places of fields, of the declaration that is looked at
}

func newChecker(l []api.Decl) *checker {
	return &checker{decls: l, named: map[string]int{}, calls: map[string]int{}, numbers: map[int]int{}}
}

// must gives up, unless a rule holds: by panic, which Check catches, so that no rule hands faults on.
func (c *checker) must(holds bool, why api.Errno) {
	if !holds {
		panic(api.Fault{At: c.at, Why: why})
	}
}

func (c *checker) mustBeWithin(least, n, most int) {
	c.must(least <= n && n <= most, api.ErrValue)
}

// enter keeps a place under a key, which must be a new one.
func enter[K comparable](c *checker, places map[K]int, key K, place int) {
	_, twice := places[key]
	c.must(!twice, api.ErrTwice)
	places[key] = place
}

// declare asks of each declaration what hangs on no type.
func (c *checker) declare() {
	for i, d := range c.decls {
		c.at = i
		c.must(d.Kind >= api.DeclResource && d.Kind <= api.DeclCall, api.ErrType)
		if d.Kind == api.DeclCall {
			c.declareCall(d)
		} else {
			c.must(!isReserved(d.Name), api.ErrTwice)
			enter(c, c.named, d.Name, i)
		}
		c.enterFields(d)
		c.declareValues(d)
	}
}

func (c *checker) declareCall(d api.Decl) {
	enter(c, c.calls, d.Name, c.at)
	c.mustBeWithin(0, d.Number, lastNumber)
	enter(c, c.numbers, d.Number, c.at)
}

func (c *checker) enterFields(d api.Decl) {
	c.fields = map[string]int{}
	for i, f := range d.Fields {
		enter(c, c.fields, f.Name, i)
	}
}

// declareValues asks whether a declaration has what its kind needs.
func (c *checker) declareValues(d api.Decl) {
	switch d.Kind {
	case api.DeclResource:
		c.must(sizeOf(d.Base) != 0, api.ErrType)
		c.someWithin(d.Values, -greatest)
	case api.DeclFlags:
		c.someWithin(d.Values, 0)
	case api.DeclConst:
		c.mustBeWithin(-greatest, d.Number, greatest)
	case api.DeclStruct, api.DeclUnion:
		c.must(len(d.Fields) > 0, api.ErrEmpty)
	}
}

// someWithin asks for one value or more, none of them below the least one.
func (c *checker) someWithin(values []int, least int) {
	c.must(len(values) > 0, api.ErrEmpty)
	for _, v := range values {
		c.mustBeWithin(least, v, greatest)
	}
}
