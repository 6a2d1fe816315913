package nodes

import (
	"maps"
	"slices"

	"dredger/api"
)

// Look tells all nodes, by their numbers.
func (s *System) Look() []api.Node {
	if !s.usable() {
		return nil
	}
	var all []api.Node
	for n := range s.nodes {
		if s.nodes[n].isThere() {
			all = append(all, s.nodes[n].look(n))
		}
	}
	return all
}

// look tells a node, which has this number.
func (x *node) look(number int) api.Node {
	told := api.Node{Number: number, Kind: x.kind, Links: x.links, Size: x.length(), Held: x.held}
	if !x.isDir() {
		told.Blocks = slices.Clone(x.fileBlocks())
		return told
	}
	told.Names = slices.Sorted(maps.Keys(x.names))
	for _, name := range told.Names {
		told.Nodes = append(told.Nodes, x.names[name])
	}
	return told
}

// Blocks tells the blocks that are allocated, rising.
func (s *System) Blocks() []int {
	if !s.usable() {
		return nil
	}
	return s.allocated()
}
