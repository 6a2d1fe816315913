package nodes

import (
	"strings"

	"dredger/api"
)

const rootPath = "/"

// place is where a path ends: the directories on the way there, the last name, and the node that it names (0: none).
type place struct {
	way  []int
	name string
	node int
}

// dir is the directory that the last name stands in, or would stand in.
func (p place) dir() int { return p.way[len(p.way)-1] }

// walk goes along a path to its end. Whether the last name is there is left to the caller.
func (s *System) walk(path string) (place, api.Err) {
	if !strings.HasPrefix(path, rootPath) || path == rootPath {
		return place{}, api.EINVAL
	}
	at := place{node: root}
	var why api.Err
walk:
	for rest, more := path[len(rootPath):], true; more; {
		at.name, rest, more = strings.Cut(rest, "/")
		here := &s.nodes[at.node]
		switch {
		case !here.isThere():
			why = api.ENOENT
			break walk
		case !here.isDir():
			why = api.ENOTDIR
			break walk
		case at.name == "":
			why = api.EINVAL
			break walk
		case len(at.name) > api.MaxName:
			why = api.ENAME
			break walk
		}
		at.way = append(at.way, at.node)
		at.node = here.names[at.name]
	}
	if why != 0 {
		return place{}, why
	}
	return at, 0
}

// walkToNode goes to the end of a path that must name a node.
func (s *System) walkToNode(path string) (place, api.Err) {
	at, why := s.walk(path)
	if why != 0 {
		return place{}, why
	}
	if at.node == 0 {
		return place{}, api.ENOENT
	}
	return at, 0
}

// walkToNew goes to the end of a path that must name nothing yet, in a directory that takes one more name.
func (s *System) walkToNew(path string) (place, api.Err) {
	at, why := s.walk(path)
	if why != 0 {
		return place{}, why
	}
	if at.node != 0 {
		return place{}, api.EEXIST
	}
	if s.nodes[at.dir()].isFull() {
		return place{}, api.ENOSPC
	}
	return at, 0
}
