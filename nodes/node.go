package nodes

import "dredger/api"

// mostBlocks is how many blocks the greatest file has.
const mostBlocks = (api.MaxFile + api.Block - 1) / api.Block

// node is a file or a directory; of kind 0 it is not there.
type node struct {
	kind, links, held int
	size              int               // a file's
	bytes             [api.MaxFile]byte // a file's; those behind its size are noughts
	blocks            [mostBlocks]int   // a file's; as many of them as its size needs
	names             map[string]int    // a directory's, each with a node
}

// newNode is an empty node with one link.
func newNode(kind int) node {
	x := node{kind: kind, links: 1}
	if kind == api.NodeDir {
		x.names = map[string]int{}
	}
	return x
}

func (x *node) isThere() bool { return x.kind != 0 }

func (x *node) isDir() bool { return x.kind == api.NodeDir }

// isFull tells whether a directory takes no further name.
func (x *node) isFull() bool { return len(x.names) >= api.MaxNames }

// length is what is told as a node's size.
func (x *node) length() int {
	if x.isDir() {
		return len(x.names)
	}
	return x.size
}

// needed is how many blocks so many bytes need.
func needed(size int) int { return (size + api.Block - 1) / api.Block }

// fileBlocks is the blocks of a file; a directory has none.
func (x *node) fileBlocks() []int { return x.blocks[:needed(x.size)] }
