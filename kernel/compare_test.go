package kernel_test

import (
	"fmt"
	"math"
	"slices"
	"strings"
	"testing"

	"dredger/api"
	"dredger/files"
	"dredger/kernel"
)

// numbers is a source of the same numbers each time.
type numbers uint64

func (n *numbers) next(below int) int {
	*n = *n*6364136223846793005 + 1442695040888963407
	return int(uint64(*n)>>33) % below
}

// pick is one of a list.
func pick[T any](n *numbers, list ...T) T { return list[n.next(len(list))] }

// slots is addresses at which texts are laid.
func slots() []int { return []int{4096, 4128, 4160, 4192, 4224, 4256, 4288, 4320} }

// address is one of a text, or of any bytes, or one out of the memory.
func (n *numbers) address() int {
	switch n.next(20) {
	case 0:
		return pick(n, math.MinInt, -1, 0, 1, api.Base-1, end-1, end, end+1, math.MaxInt)
	case 1:
		return end - n.next(30)
	case 2, 3:
		return api.Base + 300 + n.next(api.Memory-300)
	}
	return pick(n, slots()...)
}

// text is a path, or nearly.
func (n *numbers) text() string {
	if n.next(12) == 0 {
		return pick(n, "", "/", "//", "a", "/a/", "/d//a", "/toolong", "/d/toolong", "/no/a", "/a/a", strings.Repeat("/a", 12), strings.Repeat("/a", 13))
	}
	name := pick(n, "a", "a", "a", "b", "b", "c", "d", "d", "e", "f", "g")
	if n.next(3) == 0 {
		return pick(n, "/d/", "/e/") + name
	}
	return "/" + name
}

// process is a process's number, or nearly.
func (n *numbers) process() int {
	if n.next(40) == 0 {
		return pick(n, math.MinInt, -1, 0, api.MaxProcs+1, math.MaxInt)
	}
	return pick(n, 1, 1, 1, 1, 2, 2, 3, 4)
}

// descriptor is one, or nearly.
func (n *numbers) descriptor() int {
	if n.next(25) == 0 {
		return pick(n, math.MinInt, -1, api.MaxFDs, math.MaxInt)
	}
	return n.next(api.MaxFDs)
}

// size is one of a file, or a count of bytes, or nearly.
func (n *numbers) size() int {
	if n.next(8) == 0 {
		return pick(n, math.MinInt, -1, 0, api.MaxFile, api.MaxFile+1, api.Memory, api.Memory+1, 1<<20, 1<<20+1, math.MaxInt)
	}
	return pick(n, n.next(10), n.next(10), n.next(api.MaxFile))
}

// words is those of a call.
func (n *numbers) words(number int) []int {
	switch number {
	case api.CallOpen:
		return []int{n.address(), pick(n, 1+n.next(63), 1+n.next(63), 11, n.next(80), -1)}
	case api.CallRead, api.CallWrite:
		return []int{n.descriptor(), n.address(), n.size()}
	case api.CallSeek:
		return []int{n.descriptor(), pick(n, n.size(), -n.next(9)), pick(n, 0, 0, 1, 1, 2, 2, 3, -1)}
	case api.CallClose, api.CallDup, api.CallDup2:
		return []int{n.descriptor(), n.descriptor()}
	case api.CallTruncate:
		return []int{n.address(), n.size()}
	case api.CallExit:
		return []int{pick(n, n.next(600), -n.next(600), math.MinInt)}
	case api.CallKill:
		return []int{n.process()}
	case api.CallWait:
		return []int{pick(n, 0, 4500, n.address())}
	}
	return []int{n.address(), n.address()}
}

// number is a call's, or nearly; processes end seldom, so that something is left to be seen.
func (n *numbers) number() int {
	if n.next(60) == 0 {
		return pick(n, math.MinInt, -1, api.NumCalls, math.MaxInt)
	}
	number := n.next(api.NumCalls)
	if (number == api.CallExit || number == api.CallKill) && n.next(3) > 0 {
		return pick(n, api.CallOpen, api.CallWrite, api.CallRead)
	}
	return number
}

// twin is a kernel and the model of it, which are made to do the same.
type twin struct {
	*numbers
	kernel *kernel.Kernel
	model  *model
}

// lay puts a text into a process's memory, in both.
func (x twin) lay() {
	running := x.kernel.Procs().Running()
	if len(running) == 0 {
		return
	}
	pid, addr, text := pick(x.numbers, running...), pick(x.numbers, slots()...), []byte(x.text()+"\x00")
	if x.next(10) == 0 {
		addr, text = end-20, []byte("without a nought ...")
	}
	x.kernel.Space(pid).Out(addr, text)
	x.model.spaces[pid].Out(addr, text)
}

// furnish lays texts into the first process's memory, in both; of a full one no name goes into the root, and no block is free.
func (x twin) furnish(full bool) {
	for range 12 {
		x.lay()
	}
	if !full {
		return
	}
	for _, f := range []*files.Table{x.kernel.Files(), x.model.files} {
		f.Name(api.CallMkdir, "/d", "")
		f.Name(api.CallMkdir, "/e", "")
		for _, path := range []string{"/a", "/b", "/c", "/f"} {
			n, _ := f.Open(path, api.FlagWrite|api.FlagMake)
			f.Drop(n)
			f.Truncate(path, api.MaxFile)
			f.Name(api.CallLink, path, "/d"+path)
			f.Name(api.CallLink, path, "/e"+path)
		}
	}
}

// compare makes many calls of both, holds each answer and all that is told behind it against the model, and calls look.
func compare(t *testing.T, seed, defects, steps int, look func(k *kernel.Kernel, number int, is answer)) {
	t.Helper()
	source := numbers(seed)
	x := twin{&source, kernel.New(defects), newModel(defects)}
	x.furnish(seed%2 == 1)
	for i := range steps {
		if x.next(2) == 0 {
			x.lay()
		}
		pid, number := x.process(), x.number()
		words := x.words(number)
		before := stateOf(x.kernel)
		v, e, waits := x.kernel.Call(pid, number, slices.Clone(words))
		got, want := answer{v, e, waits}, x.model.call(pid, number, words)
		what := fmt.Sprintf("defects %d, seed %d, step %d: process %d, call %d of %v", defects, seed, i, pid, number, words)
		if got != want {
			t.Fatalf("%s: %v, want %v", what, got, want)
		}
		is := stateOf(x.kernel)
		if !same(is, x.model.state()) {
			t.Fatalf("%s: behind it: %v, want %v", what, is, x.model.state())
		}
		// A file that was made, or cut, stays so; with a defect a pipe's end that is dropped is seen.
		if e != 0 && e != api.EMFILE || waits {
			if !same(is, before) {
				t.Fatalf("%s has changed something: %v", what, got)
			}
		}
		if e != 0 && !sameMemory(is, before) {
			t.Fatalf("%s has changed memory: %v", what, got)
		}
		look(x.kernel, number, got)
	}
}

func sameMemory(a, b state) bool {
	a = state{memory: a.memory}
	return same(a, state{memory: b.memory})
}

// promised is which errors the chapter names for each call, what lies below included.
func promised() map[int][]api.Err {
	// Those of a path in the memory, and of walking it.
	path := []api.Err{0, api.ESRCH, api.EFAULT, api.ENAME, api.EINVAL, api.ENOTDIR, api.ENOENT}
	with := func(more ...api.Err) []api.Err { return append(more, path...) }
	return map[int][]api.Err{
		api.CallOpen:     with(api.ENFILE, api.EEXIST, api.EISDIR, api.ENOSPC, api.EMFILE),
		api.CallClose:    {0, api.ESRCH, api.EBADF},
		api.CallRead:     {0, api.ESRCH, api.EBADF, api.EINVAL, api.EFAULT, api.EISDIR},
		api.CallWrite:    {0, api.ESRCH, api.EBADF, api.EINVAL, api.EFAULT, api.EPIPE, api.EFBIG, api.ENOSPC},
		api.CallSeek:     {0, api.ESRCH, api.EBADF, api.ESPIPE, api.EINVAL},
		api.CallDup:      {0, api.ESRCH, api.EBADF, api.EMFILE},
		api.CallDup2:     {0, api.ESRCH, api.EBADF},
		api.CallUnlink:   with(api.EISDIR),
		api.CallMkdir:    with(api.EEXIST, api.ENOSPC),
		api.CallRmdir:    with(api.EFULL),
		api.CallLink:     with(api.EPERM, api.EEXIST, api.ENOSPC),
		api.CallRename:   with(api.EISDIR, api.EFULL, api.ENOSPC),
		api.CallStat:     with(),
		api.CallTruncate: with(api.EISDIR, api.EFBIG, api.ENOSPC),
		api.CallPipe:     {0, api.ESRCH, api.EFAULT, api.ENFILE, api.EMFILE},
		api.CallFork:     {0, api.ESRCH, api.EAGAIN},
		api.CallExit:     {0, api.ESRCH},
		api.CallWait:     {0, api.ESRCH, api.EFAULT, api.ECHILD},
		api.CallKill:     {0, api.ESRCH, api.EPERM},
		api.CallGetpid:   {0, api.ESRCH},
		-1:               {api.ESRCH, api.ENOSYS},
	}
}

// TestAgainstTheModel holds a kernel of each choice of defects against the model, and meets all errors, and no others.
func TestAgainstTheModel(t *testing.T) {
	met := map[int]map[api.Err]int{}
	waits := map[int]int{}
	for defects := range 64 {
		for round := range 6 {
			compare(t, 100*defects+round, defects, 400, func(_ *kernel.Kernel, number int, is answer) {
				if number < 0 || number >= api.NumCalls {
					number = -1
				}
				if met[number] == nil {
					met[number] = map[api.Err]int{}
				}
				met[number][is.err]++
				if is.waits {
					waits[number]++
				}
			})
		}
	}
	for call, errs := range promised() {
		for _, e := range errs {
			if met[call][e] == 0 {
				t.Errorf("call %d never told %v", call, e)
			}
			delete(met[call], e)
		}
		if len(met[call]) > 0 {
			t.Errorf("call %d told what the chapter does not name: %v", call, met[call])
		}
	}
	if waits[api.CallRead] == 0 || waits[api.CallWrite] == 0 || waits[api.CallWait] == 0 || len(waits) != 3 {
		t.Error("must wait:", waits)
	}
}

// TestDefectsThatMeanNothing: other bits play no part.
func TestDefectsThatMeanNothing(t *testing.T) {
	for i, defects := range []int{64, 1 << 40, math.MinInt, -1, math.MaxInt, ^63, ^63 | api.DefectFork} {
		compare(t, 90000+i, defects, 300, func(*kernel.Kernel, int, answer) {})
	}
}

// TestAnyWords: whatever they are, a call answers one of api's errors, and ends.
func TestAnyWords(t *testing.T) {
	known := []api.Err{
		0, api.EPERM, api.ENOENT, api.ESRCH, api.EBADF, api.ECHILD, api.EAGAIN, api.EFAULT, api.EEXIST, api.ENOTDIR, api.EISDIR, api.EINVAL,
		api.ENFILE, api.EMFILE, api.EFBIG, api.ENOSPC, api.ESPIPE, api.EPIPE, api.ENAME, api.ENOSYS, api.EFULL,
	}
	odd := []int{math.MinInt, math.MinInt + 1, -1 << 32, -4096, -1, 0, 1, 2, 5, 6, 63, 64, 4095, 4096, 4128, end - 1, end, 1 << 32, math.MaxInt - 1, math.MaxInt}
	source := numbers(7)
	for range 200 {
		x := twin{&source, kernel.New(source.next(64)), newModel(0)}
		x.furnish(false)
		for range 100 {
			words := make([]int, x.next(5))
			for i := range words {
				words[i] = pick(x.numbers, odd...)
			}
			number := x.next(api.NumCalls)
			if v, e, waits := x.kernel.Call(x.process(), number, words); !slices.Contains(known, e) || e != 0 && (v != 0 || waits) || waits && v != 0 || v < 0 {
				t.Fatalf("call %d of %v: %d, %v, %v", number, words, v, e, waits)
			}
		}
	}
}
