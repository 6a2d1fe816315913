package whole_test

import (
	"slices"
	"strings"

	"dredger/api"
)

// This file and those beside it with processes and runs are one model of all that the chapters 5 to 11 and 22 say, of P4. It has no layers: a call looks at, and changes, what there is, wherever it stands. A call that is refused leaves by a panic with its error.

type node struct {
	dir         bool
	links, held int
	data        []byte
	blocks      []int
	names       map[string]int
}

type pipe struct {
	readers, writers int
	data             []byte
}

type openFile struct{ kind, of, off, flags, held int }

type world struct {
	defects int
	nodes   map[int]*node
	taken   map[int]bool // blocks
	pipes   map[int]*pipe
	opens   map[int]*openFile
	procs   map[int]*proc
}

func newWorld(defects int) *world {
	return &world{
		defects: defects,
		nodes:   map[int]*node{1: {dir: true, links: 1, names: map[string]int{}}},
		taken:   map[int]bool{},
		pipes:   map[int]*pipe{},
		opens:   map[int]*openFile{},
		procs:   map[int]*proc{1: {mem: make([]byte, 2048), known: map[int]int{}}},
	}
}

func (w *world) has(defect int) bool { return w.defects&defect != 0 }

// refuse ends a call with an error, if there is one to be told.
func refuse(is bool, e api.Err) {
	if is {
		panic(e)
	}
}

// mustWait is what a call panics with that must wait.
type mustWait struct{}

// lowest is the least number from 1 on that is not taken.
func lowest[T any](taken map[int]T) int {
	n := 1
	for {
		if _, ok := taken[n]; !ok {
			return n
		}
		n++
	}
}

// at is what a name names in a directory; 0: nothing.
func (w *world) at(dir int, name string) (int, api.Err) {
	switch {
	case !w.nodes[dir].dir:
		return 0, api.ENOTDIR
	case name == "":
		return 0, api.EINVAL
	case len(name) > 6:
		return 0, api.ENAME
	}
	return w.nodes[dir].names[name], 0
}

func (w *world) walk(names []string) (int, api.Err) {
	here := 1
	for _, name := range names {
		next, e := w.at(here, name)
		if e != 0 {
			return 0, e
		}
		if next == 0 {
			return 0, api.ENOENT
		}
		here = next
	}
	return here, 0
}

func (w *world) find(path string) (int, api.Err) {
	switch {
	case !strings.HasPrefix(path, "/"):
		return 0, api.EINVAL
	case path == "/":
		return 1, 0
	}
	return w.walk(strings.Split(path[1:], "/"))
}

// must is the node at a path, or the end of the call.
func (w *world) must(path string) int {
	n, e := w.find(path)
	refuse(e != 0, e)
	return n
}

// end is where a path ends: a directory, the last name, and what that names.
func (w *world) end(path string) (*node, string, int) {
	refuse(!strings.HasPrefix(path, "/") || path == "/", api.EINVAL)
	names := strings.Split(path[1:], "/")
	last := len(names) - 1
	dir, e := w.walk(names[:last])
	refuse(e != 0, e)
	n, e := w.at(dir, names[last])
	refuse(e != 0, e)
	return w.nodes[dir], names[last], n
}

func (w *world) make(path string, dir bool) int {
	in, name, there := w.end(path)
	refuse(there != 0, api.EEXIST)
	refuse(len(in.names) == 6 || len(w.nodes) == 16, api.ENOSPC)
	n := lowest(w.nodes)
	w.nodes[n] = &node{dir: dir, links: 1, names: map[string]int{}}
	in.names[name] = n
	return n
}

// unneeded takes a node away that nothing needs any more.
func (w *world) unneeded(n int) {
	x := w.nodes[n]
	if n == 1 || x.links > 0 || x.held > 0 {
		return
	}
	delete(w.nodes, n)
	w.free(x.blocks)
}

func (w *world) free(blocks []int) {
	for _, b := range blocks {
		if !w.has(api.DefectBlocks) {
			delete(w.taken, b)
		}
	}
}

func (w *world) unlink(path string) {
	in, name, n := w.end(path)
	refuse(n == 0, api.ENOENT)
	refuse(w.nodes[n].dir, api.EISDIR)
	delete(in.names, name)
	if w.nodes[n].links == 1 || !w.has(api.DefectLinks) {
		w.nodes[n].links--
	}
	w.unneeded(n)
}

// leaves refuses a directory that can't go.
func (w *world) leaves(n int) {
	refuse(len(w.nodes[n].names) > 0, api.EFULL)
	refuse(w.nodes[n].held > 0, api.EINVAL)
}

func (w *world) rmdir(path string) {
	in, name, n := w.end(path)
	refuse(n == 0, api.ENOENT)
	refuse(!w.nodes[n].dir, api.ENOTDIR)
	w.leaves(n)
	delete(in.names, name)
	w.nodes[n].links--
	w.unneeded(n)
}

func (w *world) link(path, to string) {
	n := w.must(path)
	refuse(w.nodes[n].dir, api.EPERM)
	in, name, there := w.end(to)
	refuse(there != 0, api.EEXIST)
	refuse(len(in.names) == 6, api.ENOSPC)
	in.names[name] = n
	w.nodes[n].links++
}

// within: is a node a directory, or anything that lies in it?
func (w *world) within(x, dir *node) bool {
	if x == dir {
		return true
	}
	for _, n := range dir.names {
		if w.within(x, w.nodes[n]) {
			return true
		}
	}
	return false
}

func (w *world) rename(path, to string) {
	from, old, n := w.end(path)
	refuse(n == 0, api.ENOENT)
	in, name, there := w.end(to)
	if n == there {
		return
	}
	moved, replaced := w.nodes[n], w.nodes[there]
	if there != 0 {
		refuse(replaced.dir && !moved.dir, api.EISDIR)
		refuse(!replaced.dir && moved.dir, api.ENOTDIR)
		if replaced.dir {
			w.leaves(there)
		}
	}
	refuse(moved.dir && w.within(in, moved), api.EINVAL)
	refuse(there == 0 && in != from && len(in.names) == 6, api.ENOSPC)
	delete(from.names, old)
	in.names[name] = n
	if there == 0 {
		return
	}
	if !w.has(api.DefectRename) {
		replaced.links--
	}
	w.unneeded(there)
}

// resize gives a file another size, with blocks as it needs them.
func (w *world) resize(n, size int) {
	x := w.nodes[n]
	needs := (size + 15) / 16
	refuse(needs-len(x.blocks) > 24-len(w.taken), api.ENOSPC)
	for len(x.blocks) < needs {
		b := lowest(w.taken)
		w.taken[b] = true
		x.blocks = append(x.blocks, b)
	}
	w.free(x.blocks[needs:])
	x.blocks = x.blocks[:needs]
	x.data = append(x.data, make([]byte, 96)...)[:size:size]
}

func (w *world) truncate(path string, size int) {
	n := w.must(path)
	refuse(w.nodes[n].dir, api.EISDIR)
	refuse(size < 0, api.EINVAL)
	refuse(size > 96, api.EFBIG)
	w.resize(n, size)
}

func (w *world) size(n int) int {
	x := w.nodes[n]
	if x.dir {
		return len(x.names)
	}
	return len(x.data)
}

// open is the number of an open file.
func (w *world) open(path string, flags int) int {
	refuse(flags&^63 != 0 || flags&3 == 0, api.EINVAL)
	refuse(len(w.opens) == 10, api.ENFILE)
	n, e := w.find(path)
	switch {
	case e == api.ENOENT && flags&api.FlagMake != 0:
		n = w.make(path, false)
	case e == 0 && flags&api.FlagMake != 0 && flags&api.FlagOnly != 0:
		panic(api.EEXIST)
	default:
		refuse(e != 0, e)
	}
	refuse(w.nodes[n].dir && flags&api.FlagWrite != 0, api.EISDIR)
	if !w.nodes[n].dir && flags&api.FlagCut != 0 && flags&api.FlagWrite != 0 {
		w.resize(n, 0)
	}
	w.nodes[n].held++
	o := lowest(w.opens)
	w.opens[o] = &openFile{kind: api.OpenFile, of: n, flags: flags, held: 1}
	return o
}

// drop lets go of an open file.
func (w *world) drop(o int) {
	x := w.opens[o]
	if x.held--; x.held > 0 {
		return
	}
	delete(w.opens, o)
	switch x.kind {
	case api.OpenFile:
		w.nodes[x.of].held--
		w.unneeded(x.of)
		return
	case api.OpenRead:
		w.pipes[x.of].readers--
	case api.OpenWrite:
		if !w.has(api.DefectWriter) {
			w.pipes[x.of].writers--
		}
	}
	if p := w.pipes[x.of]; p.readers+p.writers == 0 {
		delete(w.pipes, x.of)
	}
}

func (w *world) pipe() (r, to int) {
	refuse(len(w.opens) > 8, api.ENFILE)
	refuse(len(w.pipes) == 4, api.ENFILE)
	p := lowest(w.pipes)
	w.pipes[p] = &pipe{readers: 1, writers: 1}
	r = lowest(w.opens)
	w.opens[r] = &openFile{kind: api.OpenRead, of: p, flags: api.FlagRead, held: 1}
	to = lowest(w.opens)
	w.opens[to] = &openFile{kind: api.OpenWrite, of: p, flags: api.FlagWrite, held: 1}
	return r, to
}

// taking is the first bytes of a list, and the others.
func taking(b []byte, count int) ([]byte, []byte) {
	n := min(len(b), count)
	return slices.Clone(b[:n]), slices.Clone(b[n:])
}

func (w *world) read(x *openFile, count int) (got []byte) {
	refuse(x.flags&api.FlagRead == 0, api.EBADF)
	if x.kind == api.OpenRead {
		p := w.pipes[x.of]
		if count > 0 && len(p.data) == 0 && p.writers > 0 {
			panic(mustWait{})
		}
		got, p.data = taking(p.data, count)
		return got
	}
	n := w.nodes[x.of]
	refuse(n.dir, api.EISDIR)
	got, _ = taking(n.data[min(x.off, len(n.data)):], count)
	x.off += len(got)
	return got
}

func (w *world) write(x *openFile, b []byte) int {
	refuse(x.flags&api.FlagWrite == 0, api.EBADF)
	if x.kind == api.OpenWrite {
		p := w.pipes[x.of]
		refuse(p.readers == 0, api.EPIPE)
		if len(b) > 0 && len(p.data) == 8 {
			panic(mustWait{})
		}
		got, _ := taking(b, 8-len(p.data))
		p.data = append(p.data, got...)
		return len(got)
	}
	off := x.off
	if x.flags&api.FlagAppend != 0 {
		off = len(w.nodes[x.of].data)
	}
	if len(b) > 0 {
		refuse(off+len(b) > 96, api.EFBIG)
		w.resize(x.of, max(len(w.nodes[x.of].data), off+len(b)))
		copy(w.nodes[x.of].data[off:], b)
	}
	x.off = off + len(b)
	return len(b)
}

func (w *world) seek(x *openFile, off, whence int) int {
	refuse(x.kind != api.OpenFile, api.ESPIPE)
	refuse(whence < 0 || whence > 2, api.EINVAL)
	refuse(off < -1<<20 || off > 1<<20, api.EINVAL)
	off += []int{0, x.off, w.size(x.of)}[whence]
	refuse(off < 0 || off > 1<<20, api.EINVAL)
	x.off = off
	return off
}
