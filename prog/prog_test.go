package prog_test

import (
	"errors"
	"reflect"
	"slices"
	"testing"

	"dredger/api"
	"dredger/prog"
)

// numbers is a source of the same numbers each time.
type numbers uint64

func (n *numbers) next(below int) int {
	*n = *n*6364136223846793005 + 1442695040888963407
	return int(uint64(*n)>>33) % below
}

// pick is one of a list.
func pick[T any](n *numbers, list ...T) T { return list[n.next(len(list))] }

func value(v int) api.Arg           { return api.Arg{Kind: api.ArgValue, Value: v} }
func ref(i int) api.Arg             { return api.Arg{Kind: api.ArgRef, Value: i} }
func ptr(kids ...api.Arg) api.Arg   { return api.Arg{Kind: api.ArgPtr, Kids: kids} }
func group(kids ...api.Arg) api.Arg { return api.Arg{Kind: api.ArgGroup, Kids: kids} }
func part(i int, kid api.Arg) api.Arg {
	return api.Arg{Kind: api.ArgUnion, Value: i, Kids: []api.Arg{kid}}
}
func data(s string) api.Arg { return api.Arg{Kind: api.ArgData, Bytes: []byte(s)} }

func step(call int, args ...api.Arg) api.Step { return api.Step{Call: call, Args: args} }

// Places of the sample's types.
const (
	tInt = iota
	tConst
	tFlags
	tCallLen // of the argument b
	tFd
	tText
	tData
	tArray     // of tFd
	tStructLen // of the field d
	tStruct
	tUnion
	tPtr // to the union
	tPid
)

// Places of its calls.
const (
	cMake = iota
	cUse
	cFork
	cKill
)

// sample is a table with a type of each kind.
func sample() api.Table {
	return api.Table{
		Types: []api.Type{
			{Kind: api.TypeInt, Size: 4, Lo: 1, Hi: 9},
			{Kind: api.TypeConst, Size: 2, Lo: 5},
			{Kind: api.TypeFlags, Size: 4, Values: []int{1, 2, 24}},
			{Kind: api.TypeLen, Size: 2, Of: "b"},
			{Kind: api.TypeRes, Size: 4, Of: "fd", Values: []int{-1, 0}},
			{Kind: api.TypeText, Texts: []string{"/a", "", "abc"}},
			{Kind: api.TypeData, Lo: 1, Hi: 4},
			{Kind: api.TypeArray, Lo: 1, Hi: 3, Elems: []int{tFd}},
			{Kind: api.TypeLen, Size: 1, Of: "d"},
			{Kind: api.TypeStruct, Of: "s", Elems: []int{tStructLen, tData, tFd}, Names: []string{"n", "d", "r"}},
			{Kind: api.TypeUnion, Of: "u", Elems: []int{tText, tStruct, tArray}, Names: []string{"a", "b", "c"}},
			{Kind: api.TypePtr, Size: 8, Dir: api.DirIn, Elems: []int{tUnion}},
			{Kind: api.TypeRes, Size: 8, Of: "pid", Values: []int{7}},
		},
		Calls: []api.Call{
			{Name: "make", Ret: "fd"},
			{Name: "use", Number: 5, Args: []int{tInt, tConst, tFlags, tCallLen, tFd, tPtr}, Names: []string{"i", "c", "f", "n", "r", "b"}},
			{Name: "fork", Number: 63, Ret: "pid"},
			{Name: "kill", Number: 5, Args: []int{tPid}, Names: []string{"p"}},
		},
	}
}

// use is a step of the sample's second call, right but for the length of what it points to.
func use(r api.Arg, length int, b api.Arg) api.Step {
	return step(cUse, value(3), value(5), value(26), value(length), r, b)
}

// structOf is a struct of the sample with the length of its data.
func structOf(n int, d string, r api.Arg) api.Arg { return group(value(n), data(d), r) }

// right is a program of the sample.
func right() api.Program {
	return api.Program{
		step(cMake), step(cFork),
		use(ref(0), 7, ptr(part(1, structOf(2, "xy", ref(0))))),
		step(cMake), step(cKill, ref(1)),
		use(value(0), 12, ptr(part(2, group(ref(3), value(-1), ref(0))))),
		use(ref(3), 0, ptr()),
	}
}

// isFault asks for a fault: a value, with that place, in which errors.Is finds that number alone.
func isFault(t *testing.T, of any, e error, at int, why api.Errno) {
	t.Helper()
	if f, ok := e.(api.Fault); !ok || f != (api.Fault{At: at, Why: why}) {
		t.Errorf("%+v: %v, want %v at %d", of, e, why, at)
		return
	}
	var f api.Fault
	if !errors.As(e, &f) || f.At != at {
		t.Errorf("%+v: %v is no fault at %d", of, e, at)
	}
	for n := api.OK; n < 300; n++ {
		if errors.Is(e, n) != (n == why) {
			t.Errorf("%+v: %v is found in %v: %v", of, n, e, errors.Is(e, n))
		}
	}
}

// wants asks of a program of the sample for a fault, or (OK) for none.
func wants(t *testing.T, p api.Program, at int, why api.Errno) {
	t.Helper()
	e := prog.Check(sample(), p)
	if why != api.OK {
		isFault(t, p, e, at, why)
	} else if e != nil {
		t.Errorf("%+v: %v", p, e)
	}
}

// trimArgs is arguments all of whose empty lists are nil.
func trimArgs(l []api.Arg) (out []api.Arg) {
	for _, a := range l {
		out = append(out, api.Arg{Kind: a.Kind, Value: a.Value, Kids: trimArgs(a.Kids), Bytes: append([]byte(nil), a.Bytes...)})
	}
	return out
}

// trim is a program all of whose empty lists are nil, in memory of its own.
func trim(p api.Program) (out api.Program) {
	for _, s := range p {
		out = append(out, api.Step{Call: s.Call, Args: trimArgs(s.Args)})
	}
	return out
}

func equal(a, b api.Program) bool { return reflect.DeepEqual(trim(a), trim(b)) }

// insert is a list with another item.
func insert[T any](l []T, i int, x T) []T { return slices.Insert(slices.Clone(l), i, x) }
