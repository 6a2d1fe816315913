package oracle

import "dredger/api"

// counts is how often each number is named; one that is not named is not in it.
type counts map[int]int

// within tells whether each number that is named is among those that there are.
func (c counts) within(there counts) bool {
	for number := range c {
		if there[number] == 0 {
			return false
		}
	}
	return true
}

// take removes each number of a list; false, if one is not there (any more).
func (c counts) take(list []int) bool {
	for _, number := range list {
		if c[number] == 0 {
			return false
		}
		delete(c, number)
	}
	return true
}

// named is how often the directories' names name each node.
func named(l []api.Node) counts {
	c := counts{}
	for _, n := range l {
		if n.Kind != api.NodeDir {
			continue
		}
		for i := range min(len(n.Names), len(n.Nodes)) {
			c[n.Nodes[i]]++
		}
	}
	return c
}

// numbersOf is how many nodes have each number.
func numbersOf(l []api.Node) counts {
	c := counts{}
	for _, n := range l {
		c[n.Number]++
	}
	return c
}

// opened is how many open files of a kind are of each number.
func opened(open []api.OpenInfo, kind int) counts {
	c := counts{}
	for _, f := range open {
		if f.Kind == kind {
			c[f.Of]++
		}
	}
	return c
}
