package nodes_test

import (
	"fmt"
	"maps"
	"math"
	"reflect"
	"slices"
	"testing"

	"dredger/api"
	"dredger/nodes"
)

// both is a system and the model of it, which are made to do the same.
type both struct {
	*numbers
	names  int // how many names there are to choose from
	system *nodes.System
	model  *model
}

// told is a call, as it was made, and what it answered.
type told struct {
	call, args string
	value      any
	err        api.Err
}

// path is mostly a path that is there, or one name more; now and then anything.
func (x both) path() string {
	switch x.next(12) {
	case 0:
		return pick(x.numbers, "", "/", "//", "a", "a/b", "/a/", "/a//b", "///", "\x00", "/toolong", "/toolong/a", "/a/toolong", "/b/toolong/a")
	case 1, 2:
		return "/" + x.name() + "/" + x.name()
	case 3, 4, 5, 6:
		return "/" + x.name()
	}
	there := pick(x.numbers, slices.Sorted(maps.Keys(x.model.paths))...)
	if x.next(2) == 0 {
		return there
	}
	return there + "/" + x.name()
}

func (x both) name() string {
	all := []string{"a", "b", "c", "sixsix", "e\x00", ".", "..", "\xff", "i"}
	return all[x.next(min(x.names, len(all)))]
}

// node is a node's number, or nearly.
func (x both) node() int {
	if x.next(20) == 0 {
		return pick(x.numbers, math.MinInt, -1, 0, api.MaxNodes, api.MaxNodes+1, math.MaxInt)
	}
	return 1 + x.next(api.MaxNodes)
}

// offset is one into a file, or a size of it, or nearly.
func (x both) offset() int {
	if x.next(8) == 0 {
		return pick(x.numbers, math.MinInt, -1, 0, 15, 16, 17, api.MaxFile-1, api.MaxFile, api.MaxFile+1, 1<<40, math.MaxInt)
	}
	return x.next(api.MaxFile)
}

// call is which call step makes. With many names to choose from little is taken away, so that directories get full.
func (x both) call() int {
	if c := x.next(16); x.names < 7 || c != 4 && c != 5 && c != 7 {
		return c
	}
	return pick(x.numbers, 1, 4, 5, 6, 6, 6)
}

// step makes one call of both, and tells what they answered.
func (x both) step() (got, want told) {
	s, m := x.system, x.model
	p, to, n, off, count := x.path(), x.path(), x.node(), x.offset(), x.offset()
	answer := func(args string, v, w any, e, f api.Err) (told, told) {
		return told{args: args, value: v, err: e}, told{args: args, value: w, err: f}
	}
	one, two := fmt.Sprintf("%q", p), fmt.Sprintf("%q, %q", p, to)
	switch x.call() {
	case 0:
		v, e := s.Find(p)
		w, f := m.find(p)
		got, want = answer(one, v, w, e, f)
		got.call = "Find"
	case 1, 2, 3:
		kind := pick(x.numbers, api.NodeFile, api.NodeDir, api.NodeFile, api.NodeDir, api.NodeFile, api.NodeDir, 0, -1, 3, math.MaxInt)
		v, e := s.Make(p, kind)
		w, f := m.make(p, kind)
		got, want = answer(fmt.Sprintf("%q, %d", p, kind), v, w, e, f)
		got.call = "Make"
	case 4:
		got, want = answer(one, nil, nil, s.Unlink(p), m.unlink(p))
		got.call = "Unlink"
	case 5:
		got, want = answer(one, nil, nil, s.Rmdir(p), m.rmdir(p))
		got.call = "Rmdir"
	case 6:
		got, want = answer(two, nil, nil, s.Link(p, to), m.link(p, to))
		got.call = "Link"
	case 7, 14, 15:
		got, want = answer(two, nil, nil, s.Rename(p, to), m.rename(p, to))
		got.call = "Rename"
	case 8:
		v, e := s.Stat(n)
		w, f := m.stat(n)
		got, want = answer(fmt.Sprint(n), v, w, e, f)
		got.call = "Stat"
	case 9:
		v, e := s.Read(n, off, count)
		w, f := m.read(n, off, count)
		got, want = answer(fmt.Sprint(n, off, count), string(v), string(w), e, f)
		got.call = "Read"
	case 10, 11:
		b := x.bytes(x.next(40))
		v, e := s.Write(n, off, b)
		w, f := m.write(n, off, b)
		got, want = answer(fmt.Sprintf("%d, %d, %q", n, off, b), v, w, e, f)
		got.call = "Write"
	case 12:
		got, want = answer(fmt.Sprint(n, off), nil, nil, s.Resize(n, off), m.resize(n, off))
		got.call = "Resize"
	case 13:
		got, want = x.holdOrDrop(n)
	}
	want.call = got.call
	return got, want
}

// holdOrDrop does so many times over, as a node may be held often.
func (x both) holdOrDrop(n int) (got, want told) {
	got.call = pick(x.numbers, "Hold", "Drop", "Drop")
	got.args, want.args = fmt.Sprint(n), fmt.Sprint(n)
	for range pick(x.numbers, 1, 1, 2, 501) {
		if got.call == "Hold" {
			got.err, want.err = x.system.Hold(n), x.model.hold(n)
		} else {
			got.err, want.err = x.system.Drop(n), x.model.drop(n)
		}
		if got.err != want.err {
			break
		}
	}
	return got, want
}

// compare makes many calls of both, holds each answer and all that a system tells behind it against the model, and calls look with the answer.
func compare(t *testing.T, seed, defects, names, steps int, look func(told, *nodes.System)) {
	t.Helper()
	source := numbers(seed)
	x := both{&source, names, nodes.New(defects), newModel(defects)}
	for i := range steps {
		before := x.model.state()
		got, want := x.step()
		if !reflect.DeepEqual(got, want) {
			t.Fatalf("defects %d, step %d: %s(%s): %v, %v, want %v, %v", defects, i, got.call, got.args, got.value, got.err, want.value, want.err)
		}
		is := stateOf(t, x.system)
		if !same(is, x.model.state()) {
			t.Fatalf("defects %d, step %d: behind %s(%s): %v, want %v", defects, i, got.call, got.args, is, x.model.state())
		}
		if got.err != 0 && !same(is, before) && got.call != "Hold" && got.call != "Drop" {
			t.Fatalf("defects %d, step %d: %s(%s) tells %v, and has changed something", defects, i, got.call, got.args, got.err)
		}
		look(got, x.system)
	}
}

// promised is which errors the chapter names for each call, of a system that there is.
func promised() map[string][]api.Err {
	walking := []api.Err{0, api.EINVAL, api.ENOTDIR, api.ENAME, api.ENOENT}
	return map[string][]api.Err{
		"Find":   walking,
		"Make":   append([]api.Err{api.EEXIST, api.ENOSPC}, walking...),
		"Unlink": append([]api.Err{api.EISDIR}, walking...),
		"Rmdir":  append([]api.Err{api.EFULL}, walking...),
		"Link":   append([]api.Err{api.EPERM, api.EEXIST, api.ENOSPC}, walking...),
		"Rename": append([]api.Err{api.EISDIR, api.EFULL, api.ENOSPC}, walking...),
		"Stat":   {0, api.ENOENT},
		"Read":   {0, api.ENOENT, api.EISDIR, api.EINVAL},
		"Write":  {0, api.ENOENT, api.EISDIR, api.EINVAL, api.EFBIG, api.ENOSPC},
		"Resize": {0, api.ENOENT, api.EISDIR, api.EINVAL, api.EFBIG, api.ENOSPC},
		"Hold":   {0, api.ENOENT, api.EAGAIN},
		"Drop":   {0, api.ENOENT, api.EINVAL},
	}
}

// TestAgainstTheModel holds a system of each choice of defects against the model, and meets all errors, and no others.
func TestAgainstTheModel(t *testing.T) {
	met := map[string]map[api.Err]int{}
	for defects := range 8 {
		for names := 2; names <= 9; names++ {
			compare(t, 100*defects+names, defects, names, 700, func(x told, _ *nodes.System) {
				if met[x.call] == nil {
					met[x.call] = map[api.Err]int{}
				}
				met[x.call][x.err]++
			})
		}
	}
	for call, errs := range promised() {
		for _, e := range errs {
			if met[call][e] == 0 {
				t.Errorf("%s never told %v", call, e)
			}
			delete(met[call], e)
		}
		if len(met[call]) > 0 {
			t.Errorf("%s told what the chapter does not name: %v", call, met[call])
		}
	}
}

// TestDefectsThatMeanNothing: other bits play no part.
func TestDefectsThatMeanNothing(t *testing.T) {
	for i, defects := range []int{8, 16, 32, 56, 1 << 40, math.MinInt, ^7, ^7 | api.DefectLinks, ^7 | api.DefectRename, 56 | api.DefectBlocks, -1, math.MaxInt} {
		compare(t, 9000+i, defects, 5, 400, func(told, *nodes.System) {})
	}
}

// TestLinksAndBlocks: without defects each file has as many links as names, and the allocated blocks are those of the files, each of one.
func TestLinksAndBlocks(t *testing.T) {
	for seed := range 12 {
		compare(t, 500+seed, 0, 2+seed%8, 500, func(x told, s *nodes.System) {
			named := map[int]int{1: 1}
			var blocks []int
			for _, n := range s.Look() {
				for _, of := range n.Nodes {
					named[of]++
				}
				blocks = append(blocks, n.Blocks...)
			}
			slices.Sort(blocks)
			if !slices.Equal(blocks, s.Blocks()) || len(slices.Compact(blocks)) != len(s.Blocks()) {
				t.Fatalf("behind %s(%s): the files' blocks are %v, the allocated ones %v", x.call, x.args, blocks, s.Blocks())
			}
			for _, n := range s.Look() {
				if n.Links != named[n.Number] || n.Links+n.Held == 0 {
					t.Fatalf("behind %s(%s): node %d has %d links, and %d names", x.call, x.args, n.Number, n.Links, named[n.Number])
				}
				if n.Kind == api.NodeFile && len(n.Blocks) != (n.Size+api.Block-1)/api.Block {
					t.Fatalf("behind %s(%s): %d bytes have %d blocks", x.call, x.args, n.Size, len(n.Blocks))
				}
			}
		})
	}
}
