package oracle_test

import (
	"slices"

	"dredger/api"
)

// The model asks each part of a rule by going through the lists, once for each thing that it is asked of.

// count is how many of a list a question holds of.
func count[T any](list []T, of func(T) bool) int {
	n := 0
	for _, x := range list {
		if of(x) {
			n++
		}
	}
	return n
}

// all tells whether a question holds of each one of a list.
func all[T any](list []T, of func(T) bool) bool { return count(list, of) == len(list) }

// pairs is the numbers that a directory's names name.
func pairs(n api.Node) []int {
	if n.Kind != 2 {
		return nil
	}
	var list []int
	for i := range n.Nodes {
		if i < len(n.Names) {
			list = append(list, n.Nodes[i])
		}
	}
	return list
}

func modelLinks(l []api.Node) bool {
	var named []int
	for _, n := range l {
		named = append(named, pairs(n)...)
	}
	return all(l, func(n api.Node) bool {
		if n.Number == 1 {
			return n.Links == 1
		}
		return n.Links == count(named, func(of int) bool { return of == n.Number })
	}) && all(named, func(of int) bool {
		return slices.ContainsFunc(l, func(n api.Node) bool { return n.Number == of })
	})
}

func modelBlocks(l []api.Node, used []int) bool {
	var blocks []int
	for _, n := range l {
		if n.Kind != 1 {
			continue
		}
		blocks = append(blocks, n.Blocks...)
		need := 0
		for need < 1000 && need*16 < n.Size {
			need++
		}
		if n.Size < 0 || n.Size > 1<<40 || need != len(n.Blocks) {
			return false
		}
	}
	allocated := slices.Clone(used)
	slices.Sort(blocks)
	slices.Sort(allocated)
	return slices.Equal(blocks, allocated) && len(slices.Compact(allocated)) == len(blocks)
}

func modelPipes(l []api.PipeInfo, open []api.OpenInfo) bool {
	ends := func(p api.PipeInfo, kind int) int {
		return count(open, func(f api.OpenInfo) bool { return f.Kind == kind && f.Of == p.Number })
	}
	return all(l, func(p api.PipeInfo) bool { return p.Readers == ends(p, 2) && p.Writers == ends(p, 3) }) &&
		all(open, func(f api.OpenInfo) bool {
			there := slices.ContainsFunc(l, func(p api.PipeInfo) bool { return p.Number == f.Of })
			return f.Kind != 2 && f.Kind != 3 || there
		})
}

func modelHeld(open []api.OpenInfo, procs []api.ProcInfo) bool {
	var had []int
	for _, p := range procs {
		had = append(had, p.FDs[:]...)
	}
	had = slices.DeleteFunc(had, func(file int) bool { return file == 0 })
	return all(open, func(f api.OpenInfo) bool {
		return f.Held > 0 && f.Held == count(had, func(file int) bool { return file == f.Number })
	}) && all(had, func(file int) bool {
		return slices.ContainsFunc(open, func(f api.OpenInfo) bool { return f.Number == file })
	})
}

func modelOpens(l []api.Node, open []api.OpenInfo) bool {
	var of []int
	for _, f := range open {
		if f.Kind == 1 {
			of = append(of, f.Of)
		}
	}
	return all(l, func(n api.Node) bool {
		return n.Held == count(of, func(number int) bool { return number == n.Number })
	}) && all(of, func(number int) bool {
		return slices.ContainsFunc(l, func(n api.Node) bool { return n.Number == number })
	}) && all(l, func(n api.Node) bool { return n.Kind != 1 || n.Links != 0 || n.Held > 0 })
}
