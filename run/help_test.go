package run_test

import (
	"reflect"
	"slices"
	"testing"

	"dredger/api"
	"dredger/binary"
	"dredger/run"
)

// call is a call with plain words.
func call(number int, words ...int) api.Exec {
	x := api.Exec{Number: number}
	for _, w := range words {
		x.Words = append(x.Words, api.Word{Ref: -1, Value: w})
	}
	return x
}

// with is a call with copies ahead of it.
func with(x api.Exec, copies ...api.Copy) api.Exec {
	x.Copies = copies
	return x
}

// word is a call one of whose words is a result.
func word(x api.Exec, place, ref int) api.Exec {
	x.Words = slices.Clone(x.Words)
	x.Words[place].Ref = ref
	return x
}

func at(addr int, s string) api.Copy { return api.Copy{Addr: addr, Ref: -1, Bytes: []byte(s)} }

func of(addr, ref, size, value int) api.Copy {
	return api.Copy{Addr: addr, Ref: ref, Size: size, Value: value}
}

// Where things lie in a process's memory.
const (
	path  = 4096
	other = 4128
	space = 4200
)

// open makes a file, and opens it for reading and writing.
func open(name string) api.Exec {
	return with(call(api.CallOpen, path, api.FlagRead|api.FlagWrite|api.FlagMake), at(path, name+"\x00"))
}

// tell is a call whose value is the result of a step; 500, if there is none. Descriptor 0 must be a file.
func tell(step int) api.Exec { return word(call(api.CallSeek, 0, 500, 0), 1, step) }

func did(proc, step, value int) api.Result { return api.Result{Proc: proc, Step: step, Value: value} }

func failed(proc, step int, e api.Err) api.Result { return api.Result{Proc: proc, Step: step, Err: e} }

// point is one that a call without an error has.
func point(number int) int { return number * 64 }

// trim is a report all of whose empty lists are nil.
func trim(r api.Report) api.Report {
	r.Results, r.Points = append([]api.Result(nil), r.Results...), append([]int(nil), r.Points...)
	return r
}

func same(a, b api.Report) bool { return reflect.DeepEqual(trim(a), trim(b)) }

// execs asks for what a program comes to, of itself and of its bytes.
func execs(t *testing.T, l []api.Exec, defects int, picks []int, want api.Report) {
	t.Helper()
	r, e := run.Exec(l, defects, picks)
	if e != api.OK || !same(r, want) {
		t.Errorf("%+v, %d, %v: %+v, %v, want %+v", l, defects, picks, r, e, want)
	}
	b, _ := binary.Encode(l)
	if r, e := run.Run(b, defects, picks); e != api.OK || !same(r, want) {
		t.Errorf("% x, %d, %v: %+v, %v, want %+v", b, defects, picks, r, e, want)
	}
}

// results asks for a program's results alone; it must come to its end.
func results(t *testing.T, l []api.Exec, picks []int, want ...api.Result) {
	t.Helper()
	r, e := run.Exec(l, 0, picks)
	if e != api.OK || !slices.Equal(r.Results, want) || r.Cut || r.Fault != 0 {
		t.Errorf("%+v, %v: %+v, %v, want %+v", l, picks, r, e, want)
	}
}
