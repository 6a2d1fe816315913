package nodes

import (
	"slices"

	"dredger/api"
)

// Unlink takes a file's name away.
func (s *System) Unlink(path string) api.Err {
	if !s.usable() {
		return api.EINVAL
	}
	at, why := s.walkToNode(path)
	if why != 0 {
		return why
	}
	x := &s.nodes[at.node]
	if x.isDir() {
		return api.EISDIR
	}
	s.takeName(at)
	if x.links > 1 && s.has(api.DefectLinks) {
		return 0
	}
	s.takeLink(at.node)
	return 0
}

// Rmdir takes an empty directory away.
func (s *System) Rmdir(path string) api.Err {
	if !s.usable() {
		return api.EINVAL
	}
	at, why := s.walkToNode(path)
	if why != 0 {
		return why
	}
	x := &s.nodes[at.node]
	if !x.isDir() {
		return api.ENOTDIR
	}
	if why := x.dirMayGo(); why != 0 {
		return why
	}
	s.takeName(at)
	s.takeLink(at.node)
	return 0
}

// dirMayGo tells what keeps a directory from being taken away, or replaced.
func (x *node) dirMayGo() api.Err {
	if len(x.names) > 0 {
		return api.EFULL
	}
	if x.held > 0 {
		return api.EINVAL
	}
	return 0
}

// Link gives a file one more name.
func (s *System) Link(path, to string) api.Err {
	n, why := s.Find(path)
	if why != 0 {
		return why
	}
	if s.nodes[n].isDir() {
		return api.EPERM
	}
	at, why := s.walkToNew(to)
	if why != 0 {
		return why
	}
	s.give(at, n)
	s.nodes[n].links++
	return 0
}

// Rename gives a node another name, and takes what had that name away.
func (s *System) Rename(path, to string) api.Err {
	if !s.usable() {
		return api.EINVAL
	}
	from, why := s.walkToNode(path)
	if why != 0 {
		return why
	}
	into, why := s.walk(to)
	if why != 0 || into.node == from.node {
		return why
	}
	if why := s.mayRename(from, into); why != 0 {
		return why
	}
	s.takeName(from)
	s.give(into, from.node)
	if into.node != 0 && !s.has(api.DefectRename) {
		s.takeLink(into.node)
	}
	return 0
}

// mayRename tells what keeps the node of a place from being named by another place.
func (s *System) mayRename(from, into place) api.Err {
	if into.node != 0 {
		if why := mayReplace(&s.nodes[from.node], &s.nodes[into.node]); why != 0 {
			return why
		}
	}
	// There is just one way to a directory: it goes through all that the directory lies within.
	if slices.Contains(into.way, from.node) {
		return api.EINVAL
	}
	if into.node == 0 && into.dir() != from.dir() && s.nodes[into.dir()].isFull() {
		return api.ENOSPC
	}
	return 0
}

// mayReplace tells what keeps a node from taking another one's name.
func mayReplace(x, old *node) api.Err {
	switch {
	case old.isDir() && !x.isDir():
		return api.EISDIR
	case !old.isDir() && x.isDir():
		return api.ENOTDIR
	case old.isDir():
		return old.dirMayGo()
	}
	return 0
}

// takeName takes a place's name out of its directory.
func (s *System) takeName(at place) { delete(s.nodes[at.dir()].names, at.name) }

// takeLink takes one link of a node, which goes, if nothing else keeps it there.
func (s *System) takeLink(n int) {
	s.nodes[n].links--
	s.settle(n)
}
