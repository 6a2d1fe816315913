package shrink_test

import (
	"math"
	"testing"

	"dredger/api"
	"dredger/shrink"
)

func step(call int, args ...api.Arg) api.Step { return api.Step{Call: call, Args: args} }

func value(v int) api.Arg { return api.Arg{Kind: api.ArgValue, Value: v} }

func ref(i int) api.Arg { return api.Arg{Kind: api.ArgRef, Value: i} }

func ptr(kids ...api.Arg) api.Arg { return api.Arg{Kind: api.ArgPtr, Kids: kids} }

func data(s string) api.Arg { return api.Arg{Kind: api.ArgData, Bytes: []byte(s)} }

// Places of calls.
const (
	cOpen   = 0
	cClose  = 1
	cWrite  = 3
	cFork   = 13
	cKill   = 15
	cGetpid = 16
)

// TestWrongPrograms: P23.1, prog.Check's fault, at its step.
func TestWrongPrograms(t *testing.T) {
	x := sample(t)
	open := step(cOpen, ptr(data("/a")), value(11))
	for _, c := range []struct {
		p    api.Program
		want api.Fault
	}{
		{make(api.Program, 65), api.Fault{Why: api.ErrFull}},
		{api.Program{open, step(17)}, api.Fault{At: 1, Why: api.ErrCall}},
		{api.Program{step(-1)}, api.Fault{At: 0, Why: api.ErrCall}},
		{api.Program{step(math.MaxInt)}, api.Fault{At: 0, Why: api.ErrCall}},
		{api.Program{open, step(cFork), step(cOpen)}, api.Fault{At: 2, Why: api.ErrCount}},
		{api.Program{step(cFork, value(0))}, api.Fault{At: 0, Why: api.ErrCount}},
		{api.Program{open, step(cClose, ptr())}, api.Fault{At: 1, Why: api.ErrKind}},
		{api.Program{open, step(cOpen, ptr(data("/z")), value(11)), step(cFork)}, api.Fault{At: 1, Why: api.ErrValue}},
		{api.Program{open, step(cClose, value(6)), step(cFork)}, api.Fault{At: 1, Why: api.ErrValue}},
		{api.Program{open, step(cKill, ref(0)), step(cFork)}, api.Fault{At: 1, Why: api.ErrRef}},
		{api.Program{open, step(cClose, ref(1))}, api.Fault{At: 1, Why: api.ErrRef}},
		{api.Program{open, step(cFork), step(cWrite, ref(0), ptr(data("ab")), value(3))}, api.Fault{At: 2, Why: api.ErrLen}},
	} {
		for _, defects := range []int{0, api.DefectFork, 63} {
			refuses(t, x, c.p, defects, nil, c.want)
			refuses(t, x, c.p, defects, []int{1, 2}, c.want)
		}
	}
}

// TestWrongTables: one that may not be, whatever the program.
func TestWrongTables(t *testing.T) {
	bad := api.Table{Types: []api.Type{{Kind: api.TypeInt, Size: 3}}, Calls: []api.Call{{}}}
	for _, p := range []api.Program{nil, {step(0)}, {step(9)}, make(api.Program, 65)} {
		refuses(t, bad, p, 63, nil, api.Fault{Why: api.ErrArg})
	}
	refuses(t, api.Table{}, api.Program{step(0)}, 63, nil, api.Fault{Why: api.ErrCall})
	refuses(t, api.Table{}, nil, 63, nil, api.Fault{Why: api.ErrFault})
}

// TestNoRun: P23.1, P23.2, run.Program's number, of programs that are of the table.
func TestNoRun(t *testing.T) {
	x := sample(t)
	full := step(cWrite, value(0), ptr(data(string(make([]byte, 64)))), value(64))
	p := api.Program{step(cOpen, ptr(data("/a")), value(11)), step(cFork)}
	for range 32 {
		p = append(p, full)
	}
	refuses(t, x, p, api.DefectFork, nil, api.Fault{Why: api.ErrRoom})
	refuses(t, x, p, 0, nil, api.Fault{Why: api.ErrRoom})
	if q, n, err := shrink.Shrink(x, p[:33], api.DefectFork, nil); err != nil || len(q) != 2 || n != 1+33+2 {
		t.Error(q, n, err)
	}
	// A table by hand may have values that no executed program has.
	y := api.Table{
		Types: []api.Type{{Kind: api.TypeInt, Size: 8, Lo: math.MinInt, Hi: math.MaxInt}},
		Calls: []api.Call{{Number: api.CallFork}, {Number: api.CallClose, Args: []int{0}, Names: []string{""}}},
	}
	for _, v := range []int{1<<60 + 1, -1<<60 - 1, math.MinInt, math.MaxInt} {
		refuses(t, y, api.Program{step(0), step(1, value(v))}, 63, nil, api.Fault{Why: api.ErrArg})
	}
	refuses(t, y, api.Program{step(0), step(1, value(1<<60))}, 63, nil, api.Fault{Why: api.ErrFault})
}

// TestNoFault: P23.1, ErrFault at 0, of an empty program, too.
func TestNoFault(t *testing.T) {
	x := sample(t)
	for _, p := range []api.Program{nil, {}, {step(cGetpid)}, {step(cFork), step(cFork), step(cGetpid)}, program(t, x, "r0 = open(/a, 11)", "pipe(two)", "close(1)")} {
		refuses(t, x, p, api.DefectRename, nil, api.Fault{Why: api.ErrFault})
		refuses(t, x, p, 0, []int{3, 1, 4}, api.Fault{Why: api.ErrFault})
	}
}

// TestCutOff: a run that is cut off reports no fault.
func TestCutOff(t *testing.T) {
	x := sample(t)
	p := program(t, x, "pipe(two)", `read(0, &"00", 1)`)
	refuses(t, x, p, 63, nil, api.Fault{Why: api.ErrFault})
	// Without the step that waits the process gets to its end, where the writer goes.
	if q := p[:1]; fault(t, x, q, 63, nil) != 3 || !shrink.Least(x, q, 63, nil) {
		t.Error("no fault without it")
	}
}
