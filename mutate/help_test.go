package mutate_test

import (
	"reflect"
	"slices"
	"testing"

	"dredger/api"
	"dredger/draw"
	"dredger/mutate"
	"dredger/prog"
	"dredger/types"
)

func value(v int) api.Arg           { return api.Arg{Kind: api.ArgValue, Value: v} }
func ref(i int) api.Arg             { return api.Arg{Kind: api.ArgRef, Value: i} }
func ptr(kids ...api.Arg) api.Arg   { return api.Arg{Kind: api.ArgPtr, Kids: kids} }
func group(kids ...api.Arg) api.Arg { return api.Arg{Kind: api.ArgGroup, Kids: kids} }
func part(i int, kid api.Arg) api.Arg {
	return api.Arg{Kind: api.ArgUnion, Value: i, Kids: []api.Arg{kid}}
}
func data(s string) api.Arg { return api.Arg{Kind: api.ArgData, Bytes: []byte(s)} }

func step(call int, args ...api.Arg) api.Step { return api.Step{Call: call, Args: args} }

const description = `
resource fd[int32]: -1, 0
resource pid[int16]: 7
struct pair { n len[d, int16], d data[0, 4], r fd }
union any { t text["/a", ""], p pair, i int64 }
call make(1)() fd
call fork(2)() pid
call use(3)(i int8[1, 9], r fd, p pid)
call in(63)(n len[p, int32], p ptr[in, any], m len[p, int8])
call out(0)(p ptr[out, array[pair, 1, 3]], q ptr[inout, fd]) fd
`

// Places of the calls.
const (
	cMake = iota
	cFork
	cUse
	cIn
	cOut
)

func sample(t *testing.T) api.Table {
	t.Helper()
	x, e := types.Compile(description)
	if e != nil {
		t.Fatal(e)
	}
	return x
}

// use is a step that names two results.
func use(fd, pid api.Arg) api.Step { return step(cUse, value(5), fd, pid) }

// woven is a program in which steps name one another, at once and deep within; makes counts from 0.
func woven() api.Program {
	return api.Program{
		step(cMake),
		step(cFork),
		use(ref(0), ref(1)),
		step(cOut, ptr(group(group(value(2), data("AB"), ref(0)), group(value(0), data(""), value(0)))), ptr(ref(0))),
		step(cIn, value(8), ptr(part(1, group(value(2), data("CD"), ref(3)))), value(8)),
		use(ref(3), ref(1)),
	}
}

func trimArgs(l []api.Arg) (out []api.Arg) {
	for _, a := range l {
		out = append(out, api.Arg{Kind: a.Kind, Value: a.Value, Kids: trimArgs(a.Kids), Bytes: append([]byte(nil), a.Bytes...)})
	}
	return out
}

// trim is a program all of whose empty lists are nil, in memory of its own.
func trim(p api.Program) (out api.Program) {
	for _, s := range p {
		out = append(out, api.Step{Call: s.Call, Args: trimArgs(s.Args)})
	}
	return out
}

// same tells whether two programs are, by a way of its own.
func same(p, q api.Program) bool { return reflect.DeepEqual(trim(p), trim(q)) }

// left is the last draw of a list, which must not be taken.
const left = 1234567

// mutation is a call of the package, but for the draws.
type mutation func(d *draw.Draws) (api.Program, api.Errno)

func insert(x api.Table, c *draw.Choice, p api.Program, most int) mutation {
	return func(d *draw.Draws) (api.Program, api.Errno) { return mutate.Insert(x, c, p, d, most) }
}

func remove(x api.Table, p api.Program) mutation {
	return func(d *draw.Draws) (api.Program, api.Errno) { return mutate.Remove(x, p, d) }
}

func change(x api.Table, p api.Program) mutation {
	return func(d *draw.Draws) (api.Program, api.Errno) { return mutate.Change(x, p, d) }
}

func splice(x api.Table, p, q api.Program, most int) mutation {
	return func(d *draw.Draws) (api.Program, api.Errno) { return mutate.Splice(x, p, q, d, most) }
}

func drawn(x api.Table, c *draw.Choice, p, q api.Program, most int) mutation {
	return func(d *draw.Draws) (api.Program, api.Errno) { return mutate.Mutate(x, c, p, q, d, most) }
}

// comes asks for what a mutation comes to by just those draws.
func comes(t *testing.T, x api.Table, m mutation, l []int, want api.Program) {
	t.Helper()
	d := draw.New(append(slices.Clone(l), left))
	p, e := m(d)
	if e != api.OK || !same(p, want) || d.Used() != len(l) {
		t.Errorf("%v: %+v, %v, %d used, want %+v", l, p, e, d.Used(), want)
	}
	if e := prog.Check(x, p); e != nil {
		t.Errorf("%v: %+v: %v", l, p, e)
	}
}

// refuses asks for an error, which takes no draw.
func refuses(t *testing.T, m mutation, d *draw.Draws, why api.Errno) {
	t.Helper()
	used := d.Used()
	if p, e := m(d); len(p) != 0 || e != why || d.Used() != used {
		t.Errorf("%+v, %v, %d used, want %v", p, e, d.Used(), why)
	}
}
