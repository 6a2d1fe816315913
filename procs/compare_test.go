package procs_test

import (
	"fmt"
	"math"
	"testing"

	"dredger/api"
	"dredger/files"
)

// numbers is a source of the same numbers each time.
type numbers uint64

func (n *numbers) next(below int) int {
	*n = *n*6364136223846793005 + 1442695040888963407
	return int(uint64(*n)>>33) % below
}

// pick is one of a list.
func pick[T any](n *numbers, list ...T) T { return list[n.next(len(list))] }

// twin is a world and the model of it, which are made to do the same.
type twin struct {
	*numbers
	world
	model *model
}

// told is a call, as it was made, and what it answered.
type told struct {
	call        string
	value, code int
	waits       bool
	err         api.Err
}

// process is a process's number, or nearly.
func (x twin) process() int {
	if x.next(30) == 0 {
		return pick(x.numbers, math.MinInt, -1, 0, api.MaxProcs+1, math.MaxInt)
	}
	return pick(x.numbers, 1, 1, 1, 2, 2, 2, 3, 3, 4)
}

// descriptor is one, or nearly.
func (x twin) descriptor() int {
	if x.next(20) == 0 {
		return pick(x.numbers, math.MinInt, -1, api.MaxFDs, math.MaxInt)
	}
	return x.next(api.MaxFDs)
}

// file is an open file's number, or nearly.
func (x twin) file() int {
	if x.next(20) == 0 {
		return pick(x.numbers, math.MinInt, -1, 0, api.MaxFiles+1, math.MaxInt)
	}
	return 1 + x.next(api.MaxFiles)
}

// below opens something in the files of both.
func (x twin) below() {
	for _, f := range []*files.Table{x.files, x.model.files} {
		if len(f.Look())%3 == 0 {
			f.Pipe()
		} else {
			f.Open("/a", api.FlagRead|api.FlagMake)
		}
	}
}

// step makes one call of both, and tells its name, and what they answered.
func (x twin) step() (name string, got, want told) {
	pid, fd := x.process(), x.descriptor()
	switch name = pick(x.numbers, "Fork", "Exit", "Wait", "Kill", "Install", "Install", "Install", "Install", "File", "Close", "Close", "Dup", "Dup", "Dup2", "Dup2"); name {
	case "Fork", "Exit", "Wait", "Kill":
		return x.ofProcesses(name, pid)
	case "Install":
		file := x.file()
		got.call = fmt.Sprintf("(%d, %d)", pid, file)
		got.value, got.err = x.Install(pid, file)
		want.value, want.err = x.model.Install(pid, file)
	case "File":
		got.call = fmt.Sprintf("(%d, %d)", pid, fd)
		got.value, got.err = x.File(pid, fd)
		want.value, want.err = x.model.File(pid, fd)
	case "Close":
		got.call = fmt.Sprintf("(%d, %d)", pid, fd)
		got.err, want.err = x.Close(pid, fd), x.model.Close(pid, fd)
	case "Dup":
		got.call = fmt.Sprintf("(%d, %d)", pid, fd)
		got.value, got.err = x.Dup(pid, fd)
		want.value, want.err = x.model.Dup(pid, fd)
	case "Dup2":
		to := x.descriptor()
		got.call = fmt.Sprintf("(%d, %d, %d)", pid, fd, to)
		got.value, got.err = x.Dup2(pid, fd, to)
		want.value, want.err = x.model.Dup2(pid, fd, to)
	}
	want.call = got.call
	return name, got, want
}

func (x twin) ofProcesses(name string, pid int) (_ string, got, want told) {
	switch name {
	case "Fork":
		got.call = fmt.Sprintf("(%d)", pid)
		got.value, got.err = x.Fork(pid)
		want.value, want.err = x.model.Fork(pid)
	case "Exit":
		// The first one ends seldom, so that something is left to be seen.
		if pid == 1 && x.next(8) > 0 {
			pid = 2
		}
		code := pick(x.numbers, x.next(300), -x.next(300), math.MinInt, math.MaxInt)
		got.call = fmt.Sprintf("(%d, %d)", pid, code)
		got.err, want.err = x.Exit(pid, code), x.model.Exit(pid, code)
	case "Wait":
		got.call = fmt.Sprintf("(%d)", pid)
		got.value, got.code, got.waits, got.err = x.Wait(pid)
		want.value, want.code, want.waits, want.err = x.model.Wait(pid)
	case "Kill":
		target := x.process()
		if target == 1 && pid == 1 && x.next(8) > 0 {
			target = 2
		}
		got.call = fmt.Sprintf("(%d, %d)", pid, target)
		got.err, want.err = x.Kill(pid, target), x.model.Kill(pid, target)
	}
	want.call = got.call
	return name, got, want
}

// compare makes many calls of both, holds each answer and all that is told behind it against the model, and counts what was answered.
func compare(t *testing.T, seed, defects, steps int, met map[string]int) {
	t.Helper()
	source := numbers(seed)
	x := twin{&source, newWorld(defects), newModel(defects)}
	for i := range steps {
		if x.next(3) == 0 {
			x.below()
		}
		before := x.world.state()
		name, got, want := x.step()
		if got != want {
			t.Fatalf("defects %d, step %d: %s%s: %v, want %v", defects, i, name, got.call, got, want)
		}
		is := x.world.state()
		if !same(is, x.model.state()) {
			t.Fatalf("defects %d, step %d: behind %s%s: %v, want %v", defects, i, name, got.call, is, x.model.state())
		}
		if (got.err != 0 || got.waits) && !same(is, before) {
			t.Fatalf("defects %d, step %d: %s%s has changed something: %v", defects, i, name, got.call, got)
		}
		met[fmt.Sprint(name, " ", int(got.err), " ", got.waits)]++
	}
}

// promised is what the chapter names for each call: an error, and whether it must wait.
func promised() []string {
	return []string{
		"Fork 0 false", "Fork 3 false", "Fork 11 false",
		"Exit 0 false", "Exit 3 false",
		"Wait 0 false", "Wait 0 true", "Wait 3 false", "Wait 10 false",
		"Kill 0 false", "Kill 1 false", "Kill 3 false",
		"Install 0 false", "Install 3 false", "Install 9 false", "Install 24 false",
		"File 0 false", "File 3 false", "File 9 false",
		"Close 0 false", "Close 3 false", "Close 9 false",
		"Dup 0 false", "Dup 3 false", "Dup 9 false", "Dup 24 false",
		"Dup2 0 false", "Dup2 3 false", "Dup2 9 false",
	}
}

// TestAgainstTheModel holds a table of each choice of defects against the model, and meets all that may be answered, and nothing else.
func TestAgainstTheModel(t *testing.T) {
	met := map[string]int{}
	for defects := range 64 {
		for round := range 20 {
			compare(t, 100*defects+round, defects, 120, met)
		}
	}
	for _, what := range promised() {
		if met[what] < 20 {
			t.Errorf("%s was met %d times", what, met[what])
		}
		delete(met, what)
	}
	if len(met) > 0 {
		t.Errorf("what the chapter does not name: %v", met)
	}
}

// TestDefectsThatMeanNothing: other bits play no part.
func TestDefectsThatMeanNothing(t *testing.T) {
	for i, defects := range []int{64, 1 << 40, math.MinInt, -1, math.MaxInt, ^63, ^63 | api.DefectFork, ^63 | api.DefectDup} {
		for round := range 10 {
			compare(t, 9000+100*i+round, defects, 120, map[string]int{})
		}
	}
}
