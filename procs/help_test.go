package procs_test

import (
	"reflect"
	"slices"
	"testing"

	"dredger/api"
	"dredger/files"
	"dredger/procs"
)

// world is processes, and the open files that they stand over.
type world struct {
	*procs.Table
	files *files.Table
}

func newWorld(defects int) world {
	f := files.New(defects)
	return world{procs.New(f, defects), f}
}

// state is all that can be told of a world.
type state struct {
	procs   []api.ProcInfo
	running []int
	open    []api.OpenInfo
	nodes   []api.Node
	pipes   []api.PipeInfo
}

func (w world) state() state {
	return state{w.Look(), w.Running(), w.files.Look(), w.files.Nodes(), w.files.Pipes()}
}

func same(a, b state) bool {
	return slices.Equal(a.procs, b.procs) && slices.Equal(a.running, b.running) && slices.Equal(a.open, b.open) &&
		slices.Equal(a.pipes, b.pipes) && reflect.DeepEqual(a.nodes, b.nodes)
}

// refuses makes a call that must tell an error, zero values beside it, and must have changed nothing then.
func (w world) refuses(t *testing.T, what string, want api.Err, call func() (int, api.Err)) {
	t.Helper()
	before := w.state()
	if n, e := call(); n != 0 || e != want {
		t.Errorf("%s: %d, %v, want %v", what, n, e, want)
	}
	if after := w.state(); !same(after, before) {
		t.Errorf("%s was refused, and has changed something: %v, it was %v", what, after, before)
	}
}

// plain is a call without a value.
func plain(e api.Err) (int, api.Err) { return 0, e }

// waited is a wait's answer as one number, which is 0 if there is nothing.
func waited(n, code int, waits bool, e api.Err) (int, api.Err) {
	if waits {
		n += 1 << 20
	}
	return n + code<<8, e
}

// fine asks for no error, and for a value.
func fine(t *testing.T, what string, want int) func(int, api.Err) {
	return func(n int, e api.Err) {
		t.Helper()
		if n != want || e != 0 {
			t.Fatalf("%s: %d, %v, want %d", what, n, e, want)
		}
	}
}

// opens opens a path for a process: a descriptor.
func (w world) opens(t *testing.T, pid int, path string, want int) {
	t.Helper()
	n, e := w.files.Open(path, api.FlagRead|api.FlagWrite|api.FlagMake)
	if e != 0 {
		t.Fatal(path, e)
	}
	fine(t, "Install", want)(w.Install(pid, n))
}

func (w world) forks(t *testing.T, pid, want int) {
	t.Helper()
	fine(t, "Fork", want)(w.Fork(pid))
}

func (w world) exits(t *testing.T, pid, code int) {
	t.Helper()
	fine(t, "Exit", 0)(plain(w.Exit(pid, code)))
}

// is holds all processes against what they should be.
func (w world) is(t *testing.T, what string, want ...api.ProcInfo) {
	t.Helper()
	if got := w.Look(); !slices.Equal(got, want) {
		t.Errorf("%s: %v, want %v", what, got, want)
	}
	var running []int
	for _, p := range want {
		if p.State == api.ProcRuns {
			running = append(running, p.Number)
		}
	}
	if got := w.Running(); !slices.Equal(got, running) {
		t.Errorf("%s: %v run, want %v", what, got, running)
	}
}

// held holds how often each open file is held against what it should be; 0: it is not there.
func (w world) held(t *testing.T, what string, want map[int]int) {
	t.Helper()
	got := map[int]int{}
	for _, f := range w.files.Look() {
		got[f.Number] = f.Held
	}
	for n := range api.MaxFiles + 1 {
		if got[n] != want[n] {
			t.Errorf("%s: open file %d is held %d times, want %d", what, n, got[n], want[n])
		}
	}
}

type fds = [api.MaxFDs]int

// runs is a process that runs.
func runs(number, parent int, list fds) api.ProcInfo {
	return api.ProcInfo{Number: number, Parent: parent, State: api.ProcRuns, FDs: list}
}

// over is a process that is over.
func over(number, parent, code int) api.ProcInfo {
	return api.ProcInfo{Number: number, Parent: parent, State: api.ProcOver, Code: code}
}

// notRunning is processes that do not run, in a world where 1 runs, and maybe 2.
func notRunning() []int {
	return []int{-1 << 63, -1, 0, 3, 4, api.MaxProcs + 1, 1 << 40, 1<<63 - 1}
}
