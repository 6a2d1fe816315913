package nodes_test

import (
	"bytes"
	"maps"
	"reflect"
	"slices"
	"strings"
	"testing"

	"dredger/api"
	"dredger/nodes"
)

// This file is a second file system, written from the chapter: whole paths name nodes, and a directory's names are the paths right below its own.

// thing is a node: what it has of blocks and bytes is a file's.
type thing struct {
	kind, links, held int
	blocks            []int
	bytes             []byte
}

type model struct {
	defects int
	paths   map[string]int // "" is the root's
	things  map[int]*thing
	used    map[int]bool
}

func newModel(defects int) *model {
	return &model{
		defects: defects,
		paths:   map[string]int{"": 1},
		things:  map[int]*thing{1: {kind: api.NodeDir, links: 1}},
		used:    map[int]bool{},
	}
}

func (m *model) isDir(n int) bool { return m.things[n].kind == api.NodeDir }

// parent is the path of the directory that a path's last name stands in.
func parent(path string) string { return path[:strings.LastIndex(path, "/")] }

// below is the paths of all names of a directory, rising.
func (m *model) below(dir string) []string {
	var list []string
	for p := range m.paths {
		if p != "" && parent(p) == dir {
			list = append(list, p)
		}
	}
	slices.Sort(list)
	return list
}

// end walks to a path's end, which is the path itself, if nothing is wrong.
func (m *model) end(path string) api.Err {
	if path == "" || path[0] != '/' || path == "/" {
		return api.EINVAL
	}
	names := strings.Split(path, "/")[1:]
	for i, name := range names {
		dir := ""
		if i > 0 {
			dir = "/" + strings.Join(names[:i], "/")
		}
		n, there := m.paths[dir]
		switch {
		case !there:
			return api.ENOENT
		case !m.isDir(n):
			return api.ENOTDIR
		case name == "":
			return api.EINVAL
		case len(name) > api.MaxName:
			return api.ENAME
		}
	}
	return 0
}

func (m *model) find(path string) (int, api.Err) {
	if path == "/" {
		return 1, 0
	}
	if e := m.end(path); e != 0 {
		return 0, e
	}
	n, there := m.paths[path]
	if !there {
		return 0, api.ENOENT
	}
	return n, 0
}

// named is find of a path that is to be changed: the root has no last name.
func (m *model) named(path string) (int, api.Err) {
	if path == "/" {
		return 0, api.EINVAL
	}
	return m.find(path)
}

func (m *model) make(path string, kind int) (int, api.Err) {
	if kind != api.NodeFile && kind != api.NodeDir {
		return 0, api.EINVAL
	}
	if e := m.end(path); e != 0 {
		return 0, e
	}
	if _, there := m.paths[path]; there {
		return 0, api.EEXIST
	}
	if len(m.below(parent(path))) >= api.MaxNames || len(m.things) >= api.MaxNodes {
		return 0, api.ENOSPC
	}
	n := 1
	for m.things[n] != nil {
		n++
	}
	m.things[n] = &thing{kind: kind, links: 1}
	m.paths[path] = n
	return n, 0
}

// loseLink takes a link of a node, loseHold a hold; what has neither goes.
func (m *model) loseLink(n int) { m.things[n].links--; m.sweep(n) }
func (m *model) loseHold(n int) { m.things[n].held--; m.sweep(n) }

func (m *model) sweep(n int) {
	if x := m.things[n]; x.links == 0 && x.held == 0 {
		m.unuse(x.blocks)
		delete(m.things, n)
	}
}

func (m *model) unuse(blocks []int) {
	if m.defects&api.DefectBlocks == 0 {
		for _, b := range blocks {
			delete(m.used, b)
		}
	}
}

func (m *model) unlink(path string) api.Err {
	n, e := m.named(path)
	if e != 0 {
		return e
	}
	if m.isDir(n) {
		return api.EISDIR
	}
	delete(m.paths, path)
	if m.defects&api.DefectLinks == 0 || m.things[n].links == 1 {
		m.loseLink(n)
	}
	return 0
}

// removable tells whether the directory of a path may be taken away.
func (m *model) removable(path string) api.Err {
	if len(m.below(path)) > 0 {
		return api.EFULL
	}
	if m.things[m.paths[path]].held > 0 {
		return api.EINVAL
	}
	return 0
}

func (m *model) rmdir(path string) api.Err {
	n, e := m.named(path)
	if e != 0 {
		return e
	}
	if !m.isDir(n) {
		return api.ENOTDIR
	}
	if e := m.removable(path); e != 0 {
		return e
	}
	delete(m.paths, path)
	m.loseLink(n)
	return 0
}

func (m *model) link(path, to string) api.Err {
	n, e := m.find(path)
	if e != 0 {
		return e
	}
	if m.isDir(n) {
		return api.EPERM
	}
	if e := m.end(to); e != 0 {
		return e
	}
	if _, there := m.paths[to]; there {
		return api.EEXIST
	}
	if len(m.below(parent(to))) >= api.MaxNames {
		return api.ENOSPC
	}
	m.paths[to] = n
	m.things[n].links++
	return 0
}

func (m *model) rename(path, to string) api.Err {
	n, e := m.named(path)
	if e != 0 {
		return e
	}
	if e := m.end(to); e != 0 {
		return e
	}
	old, there := m.paths[to]
	if there && old == n {
		return 0
	}
	if e := m.mayRename(path, to); e != 0 {
		return e
	}
	moved := map[string]int{to: n}
	delete(m.paths, path)
	for p, x := range m.paths {
		if strings.HasPrefix(p, path+"/") {
			moved[to+p[len(path):]] = x
			delete(m.paths, p)
		}
	}
	maps.Copy(m.paths, moved)
	if there && m.defects&api.DefectRename == 0 {
		m.loseLink(old)
	}
	return 0
}

func (m *model) mayRename(path, to string) api.Err {
	isDir := m.isDir(m.paths[path])
	old, there := m.paths[to]
	if there {
		if m.isDir(old) && !isDir {
			return api.EISDIR
		}
		if !m.isDir(old) && isDir {
			return api.ENOTDIR
		}
		if isDir {
			if e := m.removable(to); e != 0 {
				return e
			}
		}
	}
	if isDir && strings.HasPrefix(to, path+"/") {
		return api.EINVAL
	}
	if !there && parent(to) != parent(path) && len(m.below(parent(to))) >= api.MaxNames {
		return api.ENOSPC
	}
	return 0
}

func (m *model) size(n int) int {
	if !m.isDir(n) {
		return len(m.things[n].bytes)
	}
	for p, x := range m.paths {
		if x == n {
			return len(m.below(p))
		}
	}
	return 0
}

func (m *model) stat(n int) (api.Info, api.Err) {
	x := m.things[n]
	if x == nil {
		return api.Info{}, api.ENOENT
	}
	return api.Info{Kind: x.kind, Links: x.links, Size: m.size(n)}, 0
}

// file is the file of a number.
func (m *model) file(n int) (*thing, api.Err) {
	if m.things[n] == nil {
		return nil, api.ENOENT
	}
	if m.isDir(n) {
		return nil, api.EISDIR
	}
	return m.things[n], 0
}

func (m *model) read(n, off, count int) ([]byte, api.Err) {
	x, e := m.file(n)
	if e != 0 {
		return nil, e
	}
	if off < 0 || count < 0 {
		return nil, api.EINVAL
	}
	var got []byte
	for i, c := range x.bytes {
		if i >= off && len(got) < count {
			got = append(got, c)
		}
	}
	return got, 0
}

func (m *model) write(n, off int, b []byte) (int, api.Err) {
	x, e := m.file(n)
	if e != 0 {
		return 0, e
	}
	if off < 0 {
		return 0, api.EINVAL
	}
	if len(b) == 0 {
		return 0, 0
	}
	if off > api.MaxFile || off+len(b) > api.MaxFile {
		return 0, api.EFBIG
	}
	if e := m.lengthen(x, off+len(b)); e != 0 {
		return 0, e
	}
	for i, c := range b {
		x.bytes[off+i] = c
	}
	return len(b), 0
}

// lengthen appends noughts, and blocks for them.
func (m *model) lengthen(x *thing, size int) api.Err {
	missing := 0
	for (len(x.blocks)+missing)*api.Block < size {
		missing++
	}
	if len(m.used)+missing > api.MaxBlocks {
		return api.ENOSPC
	}
	for range missing {
		b := 1
		for m.used[b] {
			b++
		}
		m.used[b] = true
		x.blocks = append(x.blocks, b)
	}
	for len(x.bytes) < size {
		x.bytes = append(x.bytes, 0)
	}
	return 0
}

func (m *model) resize(n, size int) api.Err {
	x, e := m.file(n)
	if e != 0 {
		return e
	}
	if size < 0 {
		return api.EINVAL
	}
	if size > api.MaxFile {
		return api.EFBIG
	}
	if size >= len(x.bytes) {
		return m.lengthen(x, size)
	}
	x.bytes = slices.Clone(x.bytes[:size])
	keep := 0
	for keep*api.Block < size {
		keep++
	}
	m.unuse(x.blocks[keep:])
	x.blocks = slices.Clone(x.blocks[:keep])
	return 0
}

func (m *model) hold(n int) api.Err {
	if m.things[n] == nil {
		return api.ENOENT
	}
	if m.things[n].held >= 1000 {
		return api.EAGAIN
	}
	m.things[n].held++
	return 0
}

func (m *model) drop(n int) api.Err {
	if m.things[n] == nil {
		return api.ENOENT
	}
	if m.things[n].held == 0 {
		return api.EINVAL
	}
	m.loseHold(n)
	return 0
}

// state is all that can be told of a system: its nodes, its blocks, the bytes of its files.
type state struct {
	nodes  []api.Node
	blocks []int
	bytes  map[int]string
}

func (m *model) state() state {
	s := state{bytes: map[int]string{}}
	for _, n := range slices.Sorted(maps.Keys(m.things)) {
		x := m.things[n]
		told := api.Node{Number: n, Kind: x.kind, Links: x.links, Size: m.size(n), Held: x.held, Blocks: x.blocks}
		for dir, d := range m.paths {
			if d == n && m.isDir(n) {
				for _, p := range m.below(dir) {
					told.Names = append(told.Names, p[len(dir)+1:])
					told.Nodes = append(told.Nodes, m.paths[p])
				}
			}
		}
		if !m.isDir(n) {
			s.bytes[n] = string(x.bytes)
		}
		s.nodes = append(s.nodes, plain(told))
	}
	s.blocks = append(s.blocks, slices.Sorted(maps.Keys(m.used))...)
	return s
}

// plain is a node whose empty lists are nil, and whose lists are its own.
func plain(n api.Node) api.Node {
	n.Blocks = append([]int(nil), n.Blocks...)
	n.Names = append([]string(nil), n.Names...)
	n.Nodes = append([]int(nil), n.Nodes...)
	return n
}

// stateOf is what a system tells of itself.
func stateOf(t *testing.T, s *nodes.System) state {
	t.Helper()
	is := state{bytes: map[int]string{}, blocks: append([]int(nil), s.Blocks()...)}
	for _, n := range s.Look() {
		is.nodes = append(is.nodes, plain(n))
		if n.Kind == api.NodeDir {
			continue
		}
		b, e := s.Read(n.Number, 0, 1<<40)
		if e != 0 {
			t.Fatalf("a read of file %d: %v", n.Number, e)
		}
		is.bytes[n.Number] = string(b)
	}
	return is
}

func same(a, b state) bool { return reflect.DeepEqual(a, b) }

// numbers is a source of the same numbers each time.
type numbers uint64

func (n *numbers) next(below int) int {
	*n = *n*6364136223846793005 + 1442695040888963407
	return int(uint64(*n)>>33) % below
}

func (n *numbers) bytes(count int) []byte {
	b := make([]byte, count)
	for i := range b {
		b[i] = byte(1 + n.next(255))
	}
	return b
}

// pick is one of a list.
func pick[T any](n *numbers, list ...T) T { return list[n.next(len(list))] }

// filled is so many bytes of one kind.
func filled(c byte, count int) []byte { return bytes.Repeat([]byte{c}, count) }
