package oracle_test

import (
	"math"
	"strings"
	"testing"

	"dredger/api"
	"dredger/oracle"
)

// asks holds an answer against the one that is wanted, and the model against it too.
func asks(t *testing.T, what string, got, model, want bool) {
	t.Helper()
	if got != want || model != want {
		t.Errorf("%s: %v, the model says %v, want %v", what, got, model, want)
	}
}

func dir(number, links int, nodes ...int) api.Node {
	return api.Node{Number: number, Kind: api.NodeDir, Links: links, Size: len(nodes), Names: strings.Fields(strings.Repeat("n ", len(nodes))), Nodes: nodes}
}

func file(number, links, size int, blocks ...int) api.Node {
	return api.Node{Number: number, Kind: api.NodeFile, Links: links, Size: size, Blocks: blocks}
}

// held is a node that is held so often.
func held(n api.Node, times int) api.Node {
	n.Held = times
	return n
}

func TestLinks(t *testing.T) {
	short, long := dir(1, 1, 2, 3), dir(1, 1, 2)
	short.Names = short.Names[:1]
	long.Names = append(long.Names, "more")
	unnamed := dir(1, 1, 2)
	unnamed.Names = nil
	for _, x := range []struct {
		what string
		want bool
		l    []api.Node
	}{
		{"nothing", true, nil},
		{"an empty list", true, []api.Node{}},
		{"a root", true, []api.Node{dir(1, 1)}},
		{"a root without links", false, []api.Node{dir(1, 0)}},
		{"a root of two links", false, []api.Node{dir(1, 2)}},
		{"a root that is named", true, []api.Node{dir(1, 1, 1)}},
		{"a root that is named twice", true, []api.Node{dir(1, 1, 1, 1)}},
		{"a root with a link for its name", false, []api.Node{dir(1, 2, 1)}},
		{"a root that is a file", true, []api.Node{file(1, 1, 0)}},
		{"one name", true, []api.Node{dir(1, 1, 2), file(2, 1, 0)}},
		{"one name, two links", false, []api.Node{dir(1, 1, 2), file(2, 2, 0)}},
		{"one name, no link", false, []api.Node{dir(1, 1, 2), file(2, 0, 0)}},
		{"two names", true, []api.Node{dir(1, 1, 2, 2), file(2, 2, 0)}},
		{"two names, one link", false, []api.Node{dir(1, 1, 2, 2), file(2, 1, 0)}},
		{"names of two directories", true, []api.Node{dir(1, 1, 2, 3), file(2, 2, 0), dir(3, 1, 2)}},
		{"a directory of no name", true, []api.Node{dir(1, 1), dir(3, 0)}},
		{"a directory of too many links", false, []api.Node{dir(1, 1, 3), dir(3, 2)}},
		{"no name, no link", true, []api.Node{dir(1, 1), file(2, 0, 0)}},
		{"no name, a link", false, []api.Node{dir(1, 1), file(2, 1, 0)}},
		{"links below 0", false, []api.Node{dir(1, 1), file(2, -1, 0)}},
		{"a name of nothing", false, []api.Node{dir(1, 1, 2)}},
		{"a name of number 0", false, []api.Node{dir(1, 1, 0)}},
		{"a name of number 0, which is there", true, []api.Node{dir(1, 1, 0), file(0, 1, 0)}},
		{"no root, a name of it", false, []api.Node{dir(2, 1, 1), dir(3, 0, 2)}},
		{"no root", true, []api.Node{dir(2, 1, 2)}},
		{"numbers below 0", true, []api.Node{dir(1, 1, -5, math.MinInt), file(-5, 1, 0), file(math.MinInt, 1, 0)}},
		{"two of one number", true, []api.Node{dir(1, 1, 2), file(2, 1, 0), file(2, 1, 0)}},
		{"two of one number, the second wrong", false, []api.Node{dir(1, 1, 2), file(2, 1, 0), file(2, 0, 0)}},
		{"two of one number, the first wrong", false, []api.Node{dir(1, 1, 2), file(2, 2, 0), file(2, 1, 0)}},
		{"two roots", true, []api.Node{dir(1, 1, 2), dir(1, 1, 2), file(2, 2, 0)}},
		{"two roots, the second wrong", false, []api.Node{dir(1, 1), dir(1, 2)}},
		{"more nodes than names", true, []api.Node{short, file(2, 1, 0), file(3, 0, 0)}},
		{"more nodes than names, all counted", false, []api.Node{short, file(2, 1, 0), file(3, 1, 0)}},
		{"more nodes than names, the last not there", true, []api.Node{short, file(2, 1, 0)}},
		{"more names than nodes", true, []api.Node{long, file(2, 1, 0)}},
		{"nodes without names", true, []api.Node{unnamed, file(2, 0, 0)}},
		{"names of what is no directory", true, []api.Node{dir(1, 1, 2), {Number: 2, Kind: api.NodeFile, Links: 1, Names: []string{"x"}, Nodes: []int{2}}}},
		{"names of what is no directory, of nothing", true, []api.Node{{Number: 1, Kind: 3, Links: 1, Names: []string{"x"}, Nodes: []int{9}}}},
	} {
		asks(t, x.what, oracle.Links(x.l), modelLinks(x.l), x.want)
	}
}

func TestBlocks(t *testing.T) {
	blocks := func(n int) (list []int) {
		for i := range n {
			list = append(list, i)
		}
		return list
	}
	of := func(list ...int) []int { return list }
	for _, x := range []struct {
		what string
		want bool
		l    []api.Node
		used []int
	}{
		{"nothing", true, nil, nil},
		{"empty lists", true, []api.Node{}, []int{}},
		{"a file of a block", true, []api.Node{file(2, 1, 16, 5)}, of(5)},
		{"a file of a byte", true, []api.Node{file(2, 1, 1, 5)}, of(5)},
		{"an empty file", true, []api.Node{file(2, 1, 0)}, nil},
		{"an empty file with a block", false, []api.Node{file(2, 1, 0, 5)}, of(5)},
		{"a block too few", false, []api.Node{file(2, 1, 17, 5)}, of(5)},
		{"a block too many", false, []api.Node{file(2, 1, 16, 5, 6)}, of(5, 6)},
		{"two blocks", true, []api.Node{file(2, 1, 17, 5, 3)}, of(3, 5)},
		{"two blocks, one not allocated", false, []api.Node{file(2, 1, 17, 5, 3)}, of(3)},
		{"an allocated one of no file", false, []api.Node{file(2, 1, 17, 5, 3)}, of(3, 5, 9)},
		{"only an allocated one", false, nil, of(0)},
		{"another one is allocated", false, []api.Node{file(2, 1, 16, 5)}, of(6)},
		{"an allocated one twice", false, []api.Node{file(2, 1, 16, 5)}, of(5, 5)},
		{"an allocated one twice, as in two files", false, []api.Node{file(2, 1, 16, 5), file(3, 1, 16, 5)}, of(5, 5)},
		{"an allocated one twice, of no file", false, nil, of(5, 5)},
		{"one block of two files", false, []api.Node{file(2, 1, 16, 5), file(3, 1, 16, 5)}, of(5)},
		{"one block of two files, as many allocated", false, []api.Node{file(2, 1, 16, 5), file(3, 1, 16, 5)}, of(5, 6)},
		{"one block twice in a file", false, []api.Node{file(2, 1, 32, 5, 5)}, of(5)},
		{"two files", true, []api.Node{file(2, 1, 16, 5), file(3, 1, 20, 1, 4)}, of(4, 5, 1)},
		{"two files of one number", true, []api.Node{file(2, 1, 16, 5), file(2, 1, 16, 6)}, of(5, 6)},
		{"two files of one number, the second wrong", false, []api.Node{file(2, 1, 16, 5), file(2, 1, 33, 6)}, of(5, 6)},
		{"numbers of any size", true, []api.Node{file(2, 1, 48, 0, -1, math.MaxInt)}, of(-1, math.MaxInt, 0)},
		{"more than a file may have", true, []api.Node{file(2, 1, 16*200, blocks(200)...)}, blocks(200)},
		{"a size below 0", false, []api.Node{file(2, 1, -1)}, nil},
		{"a size below 0, a block's", false, []api.Node{file(2, 1, -16)}, nil},
		{"the least size", false, []api.Node{file(2, 1, math.MinInt)}, nil},
		{"the greatest size", false, []api.Node{file(2, 1, math.MaxInt)}, nil},
		{"a size above 2^40", false, []api.Node{file(2, 1, 1<<40+1)}, nil},
		{"a size of 2^40", false, []api.Node{file(2, 1, 1<<40)}, nil},
		{"a size whose blocks are 0 modulo 2^32", false, []api.Node{file(2, 1, 1<<36)}, nil},
		{"the greatest size, a sum of which wraps round to some blocks", false, []api.Node{file(2, 1, math.MaxInt, 1)}, of(1)},
		{"blocks and a size of a directory", true, []api.Node{{Number: 1, Kind: api.NodeDir, Size: -3, Blocks: of(4)}}, nil},
		{"only a directory has the allocated one", false, []api.Node{{Number: 1, Kind: api.NodeDir, Blocks: of(4)}}, of(4)},
		{"blocks and a size of another kind", true, []api.Node{{Number: 1, Kind: 0, Size: math.MaxInt, Blocks: of(4, 4)}}, nil},
	} {
		asks(t, x.what, oracle.Blocks(x.l, x.used), modelBlocks(x.l, x.used), x.want)
	}
}

func TestPipes(t *testing.T) {
	r, w := api.OpenInfo{Number: 1, Kind: api.OpenRead, Of: 1, Held: 1}, api.OpenInfo{Number: 2, Kind: api.OpenWrite, Of: 1, Held: 1}
	far := api.OpenInfo{Number: 3, Kind: api.OpenWrite, Of: 2}
	pipes := func(l ...api.PipeInfo) []api.PipeInfo { return l }
	ends := func(l ...api.OpenInfo) []api.OpenInfo { return l }
	for _, x := range []struct {
		what string
		want bool
		l    []api.PipeInfo
		open []api.OpenInfo
	}{
		{"nothing", true, nil, nil},
		{"a pipe without ends", true, pipes(api.PipeInfo{Number: 1, Bytes: 3}), nil},
		{"both ends", true, pipes(api.PipeInfo{Number: 1, Readers: 1, Writers: 1}), ends(w, r)},
		{"a reader", true, pipes(api.PipeInfo{Number: 1, Readers: 1}), ends(r)},
		{"a writer", true, pipes(api.PipeInfo{Number: 1, Writers: 1}), ends(w)},
		{"two readers", true, pipes(api.PipeInfo{Number: 1, Readers: 2}), ends(r, r)},
		{"a reader counted as a writer", false, pipes(api.PipeInfo{Number: 1, Writers: 1}), ends(r)},
		{"a writer counted as a reader", false, pipes(api.PipeInfo{Number: 1, Readers: 1}), ends(w)},
		{"a writer that is gone", false, pipes(api.PipeInfo{Number: 1, Readers: 1, Writers: 1}), ends(r)},
		{"a reader that is gone", false, pipes(api.PipeInfo{Number: 1, Readers: 1, Writers: 1}), ends(w)},
		{"a writer too many", false, pipes(api.PipeInfo{Number: 1, Writers: 1}), ends(w, w)},
		{"readers below 0", false, pipes(api.PipeInfo{Number: 1, Readers: -1}), nil},
		{"a reader of no pipe", false, nil, ends(r)},
		{"a writer of no pipe", false, nil, ends(w)},
		{"a writer of another pipe", false, pipes(api.PipeInfo{Number: 1, Readers: 1}), ends(r, far)},
		{"two pipes", true, pipes(api.PipeInfo{Number: 2, Writers: 1}, api.PipeInfo{Number: 1, Readers: 1}), ends(r, far)},
		{"two pipes of one number", true, pipes(api.PipeInfo{Number: 1, Readers: 1}, api.PipeInfo{Number: 1, Readers: 1}), ends(r)},
		{"two pipes of one number, the second wrong", false, pipes(api.PipeInfo{Number: 1, Readers: 1}, api.PipeInfo{Number: 1}), ends(r)},
		{"two pipes of one number, the first wrong", false, pipes(api.PipeInfo{Number: 1}, api.PipeInfo{Number: 1, Readers: 1}), ends(r)},
		{"a pipe of number 0", true, pipes(api.PipeInfo{Writers: 1}), ends(api.OpenInfo{Kind: api.OpenWrite})},
		{"other open files", true, nil, ends(api.OpenInfo{Kind: api.OpenFile, Of: 7}, api.OpenInfo{Of: 1}, api.OpenInfo{Kind: 4, Of: -1})},
		{"an open file of a node of that number", true, pipes(api.PipeInfo{Number: 1}), ends(api.OpenInfo{Kind: api.OpenFile, Of: 1})},
	} {
		asks(t, x.what, oracle.Pipes(x.l, x.open), modelPipes(x.l, x.open), x.want)
	}
}

func TestHeld(t *testing.T) {
	open := func(l ...api.OpenInfo) []api.OpenInfo { return l }
	proc := func(fds ...int) api.ProcInfo {
		p := api.ProcInfo{Number: 1, State: api.ProcRuns}
		copy(p.FDs[:], fds)
		return p
	}
	procs := func(l ...api.ProcInfo) []api.ProcInfo { return l }
	one := api.OpenInfo{Number: 1, Kind: api.OpenFile, Of: 2, Held: 1}
	two := api.OpenInfo{Number: 1, Kind: api.OpenFile, Of: 2, Held: 2}
	over := proc(1)
	over.State = api.ProcOver
	for _, x := range []struct {
		what  string
		want  bool
		open  []api.OpenInfo
		procs []api.ProcInfo
	}{
		{"nothing", true, nil, nil},
		{"a process without descriptors", true, nil, procs(proc())},
		{"a descriptor", true, open(one), procs(proc(0, 1))},
		{"the last descriptor", true, open(one), procs(proc(0, 0, 0, 0, 0, 1))},
		{"no process", false, open(one), nil},
		{"no descriptor", false, open(one), procs(proc())},
		{"held by none, had by none", false, open(api.OpenInfo{Number: 1, Kind: api.OpenFile}), nil},
		{"held by none, had by one", false, open(api.OpenInfo{Number: 1, Kind: api.OpenFile}), procs(proc(1))},
		{"held below 0", false, open(api.OpenInfo{Number: 1, Held: -1}), nil},
		{"two descriptors", true, open(two), procs(proc(1, 1))},
		{"two processes", true, open(two), procs(proc(1), proc(0, 1))},
		{"two processes, held once", false, open(one), procs(proc(1), proc(1))},
		{"one descriptor, held twice", false, open(two), procs(proc(1))},
		{"a descriptor of a process that is over", true, open(one), procs(over)},
		{"a descriptor of nothing", false, nil, procs(proc(1))},
		{"a descriptor of nothing beside one that is right", false, open(one), procs(proc(1, 2))},
		{"a descriptor below 0", false, nil, procs(proc(-1))},
		{"a descriptor below 0 that there is", true, open(api.OpenInfo{Number: -1, Held: 1}), procs(proc(-1))},
		{"an open file of number 0", false, open(api.OpenInfo{Held: 1}), procs(proc(0))},
		{"an open file of number 0, held as often as descriptors are none", false, open(api.OpenInfo{Held: api.MaxFDs}), procs(proc())},
		{"an open file of number 0 that is not held", false, open(api.OpenInfo{}), procs(proc())},
		{"two of one number", true, open(one, one), procs(proc(1))},
		{"two of one number, the second wrong", false, open(one, two), procs(proc(1))},
		{"two of one number, the first wrong", false, open(two, one), procs(proc(1))},
	} {
		asks(t, x.what, oracle.Held(x.open, x.procs), modelHeld(x.open, x.procs), x.want)
	}
}

func TestOpens(t *testing.T) {
	of := func(nodes ...int) (l []api.OpenInfo) {
		for _, n := range nodes {
			l = append(l, api.OpenInfo{Number: 9, Kind: api.OpenFile, Of: n})
		}
		return l
	}
	for _, x := range []struct {
		what string
		want bool
		l    []api.Node
		open []api.OpenInfo
	}{
		{"nothing", true, nil, nil},
		{"a file that is not open", true, []api.Node{file(2, 1, 0)}, nil},
		{"a file that is open", true, []api.Node{held(file(2, 1, 0), 1)}, of(2)},
		{"a file that is open twice", true, []api.Node{held(file(2, 1, 0), 2)}, of(2, 2)},
		{"an open file that is not held", false, []api.Node{file(2, 1, 0)}, of(2)},
		{"a held file that is not open", false, []api.Node{held(file(2, 1, 0), 1)}, nil},
		{"held below 0", false, []api.Node{held(file(2, 1, 0), -1)}, nil},
		{"open twice, held once", false, []api.Node{held(file(2, 1, 0), 1)}, of(2, 2)},
		{"a directory that is open", true, []api.Node{held(dir(1, 1), 1)}, of(1)},
		{"a directory that is not held", false, []api.Node{dir(1, 1)}, of(1)},
		{"an open file of no node", false, nil, of(2)},
		{"an open file of another node", false, []api.Node{file(3, 1, 0)}, of(2)},
		{"a file without links that is open", true, []api.Node{held(file(2, 0, 0), 1)}, of(2)},
		{"a file without links that is not open", false, []api.Node{file(2, 0, 0)}, nil},
		{"a directory without links", true, []api.Node{dir(2, 0)}, nil},
		{"another kind without links", true, []api.Node{{Number: 2, Kind: 3}}, nil},
		{"a file of links below 0", true, []api.Node{file(2, -1, 0)}, nil},
		{"two of one number", true, []api.Node{held(file(2, 1, 0), 1), held(file(2, 1, 0), 1)}, of(2)},
		{"two of one number, the second wrong", false, []api.Node{held(file(2, 1, 0), 1), file(2, 1, 0)}, of(2)},
		{"two of one number, the first wrong", false, []api.Node{file(2, 1, 0), held(file(2, 1, 0), 1)}, of(2)},
		{"pipes' ends", true, []api.Node{file(2, 1, 0)}, []api.OpenInfo{{Kind: api.OpenRead, Of: 2}, {Kind: api.OpenWrite, Of: 3}, {Of: 2}, {Kind: 4, Of: 8}}},
		{"a node of number 0", true, []api.Node{held(file(0, 1, 0), 1)}, of(0)},
	} {
		asks(t, x.what, oracle.Opens(x.l, x.open), modelOpens(x.l, x.open), x.want)
	}
}
