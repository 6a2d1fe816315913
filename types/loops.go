package types

import (
	"math"

	"dredger/api"
)

// walk goes through what structs and unions hold, depth first. Those that hold one another are left together, by the one of them that was met first.
type walk struct {
	held   [][]int // by a declaration's place: the places of those that it holds at once
	met    []int   // when a declaration was met, from 1 on; left, if its way is over
	count  int     // how many were met
	way    []int   // those that are met, and not left
	itself []bool  // which of them hold themselves
}

const left = math.MaxInt

// loops is which declarations hold themselves, over any others.
func (c *checker) loops() []bool {
	n := len(c.decls)
	w := walk{held: make([][]int, n), met: make([]int, n), itself: make([]bool, n)}
	for i, d := range c.decls {
		for _, f := range d.Fields {
			w.held[i] = c.addHeld(w.held[i], f.Type)
		}
	}
	for i := range c.decls {
		if w.met[i] == 0 {
			w.visit(i)
		}
	}
	return w.itself
}

// addHeld adds the places of the structs and unions that a type as it is written names.
func (c *checker) addHeld(places []int, e api.Expr) []int {
	if c.names(e.Name, api.DeclStruct) || c.names(e.Name, api.DeclUnion) {
		places = append(places, c.named[e.Name])
	}
	for _, inner := range e.Types {
		places = c.addHeld(places, inner)
	}
	return places
}

// visit meets a declaration and all that it holds, and is the earliest one on the way that it leads back to.
func (w *walk) visit(i int) int {
	from := len(w.way)
	w.way = append(w.way, i)
	w.count++
	w.met[i] = w.count
	earliest := w.count
	for _, k := range w.held[i] {
		if w.met[k] == 0 {
			earliest = min(earliest, w.visit(k))
		}
		earliest = min(earliest, w.met[k])
		w.itself[i] = w.itself[i] || k == i
	}
	if earliest == w.met[i] {
		w.leave(from)
	}
	return earliest
}

// leave leaves those on the way from a place on: they hold one another, if they are several.
func (w *walk) leave(from int) {
	group := w.way[from:]
	for _, i := range group {
		w.met[i] = left
		w.itself[i] = w.itself[i] || len(group) > 1
	}
	w.way = w.way[:from]
}
