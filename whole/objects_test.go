package whole_test

import (
	"errors"
	"math"
	"reflect"
	"testing"

	"dredger/api"
	"dredger/corpus"
	"dredger/disk"
	"dredger/draw"
	"dredger/files"
	"dredger/fuzz"
	"dredger/gen"
	"dredger/journal"
	"dredger/kernel"
	"dredger/lex"
	"dredger/mem"
	"dredger/mutate"
	"dredger/nodes"
	"dredger/oracle"
	"dredger/parse"
	"dredger/pipes"
	"dredger/procs"
	"dredger/prog"
	"dredger/shrink"
	"dredger/text"
	"dredger/types"
	"dredger/wire"
)

// unmade is objects of all kinds that no call made.
func unmade() []any {
	return []any{
		(*wire.Reader)(nil), &wire.Reader{}, (*disk.Disk)(nil), &disk.Disk{}, (*journal.Journal)(nil), &journal.Journal{}, (*corpus.Corpus)(nil), &corpus.Corpus{},
		(*mem.Space)(nil), &mem.Space{}, (*nodes.System)(nil), &nodes.System{}, (*pipes.Table)(nil), &pipes.Table{}, (*files.Table)(nil), &files.Table{},
		(*procs.Table)(nil), &procs.Table{}, (*kernel.Kernel)(nil), &kernel.Kernel{}, (*draw.Draws)(nil), &draw.Draws{}, (*draw.Choice)(nil), &draw.Choice{},
		(*fuzz.Loop)(nil), &fuzz.Loop{},
	}
}

// arguments is some for a function: all noughts, or others that are apart from one another.
func arguments(f reflect.Type, which int) (in []reflect.Value) {
	samples := map[reflect.Type][]any{
		reflect.TypeFor[int]():         {0, 1, -1, math.MaxInt, math.MinInt},
		reflect.TypeFor[bool]():        {false, true, true, false, false},
		reflect.TypeFor[string]():      {"", "/a", "a", "p00", "\xff"},
		reflect.TypeFor[[]int]():       {[]int(nil), []int{0}, []int{1, 2}, []int{-1}, []int{}},
		reflect.TypeFor[[]byte]():      {[]byte(nil), []byte("a"), make([]byte, 128), []byte{}, []byte{0x80}},
		reflect.TypeFor[[][]byte]():    {[][]byte(nil), [][]byte{nil}, [][]byte{{1}}, [][]byte{}, [][]byte{{1}, {2}}},
		reflect.TypeFor[api.Entry]():   {api.Entry{}, api.Entry{Key: "a"}, api.Entry{Key: "A"}, api.Entry{Fault: -1}, api.Entry{Key: "f1", Fault: 1}},
		reflect.TypeFor[*draw.Draws](): {(*draw.Draws)(nil), draw.New(nil), draw.New([]int{1, 2}), &draw.Draws{}, draw.New([]int{7})},
	}
	for i := range f.NumIn() {
		in = append(in, reflect.ValueOf(samples[f.In(i)][which]))
	}
	return in
}

// TestUnmadeObjects: a call of an object that no call made answers ErrNil, EINVAL, and zero values.
func TestUnmadeObjects(t *testing.T) {
	calls := 0
	for _, o := range unmade() {
		v := reflect.ValueOf(o)
		for i := range v.NumMethod() {
			m := v.Method(i)
			for which := range 5 {
				calls++
				for _, out := range m.Call(arguments(m.Type(), which)) {
					ok := out.IsZero() || out.Kind() == reflect.Slice && out.Len() == 0
					switch out.Interface().(type) {
					case api.Errno:
						ok = out.Interface() == api.ErrNil
					case api.Err:
						ok = out.Interface() == api.EINVAL
					}
					if !ok {
						t.Errorf("%T.%s, arguments %d: %v", o, v.Type().Method(i).Name, which, out)
					}
				}
			}
		}
	}
	if calls < 800 {
		t.Error("few calls:", calls)
	}
}

// TestHandedUnmade: likewise a call that is handed one.
func TestHandedUnmade(t *testing.T) {
	x, err := types.Compile("call getpid(19)()")
	if err != nil {
		t.Fatal(err)
	}
	for _, d := range []*disk.Disk{nil, {}} {
		if j, recs, e := journal.Open(d); j != nil || len(recs) != 0 || e != api.ErrNil {
			t.Error(e)
		}
		if c, e := corpus.Open(d); c != nil || e != api.ErrNil {
			t.Error(e)
		}
		if l, err := fuzz.New(d, "", 0); l != nil || err != error(api.Fault{Why: api.ErrNil}) {
			t.Error(err)
		}
	}
	for _, f := range []*files.Table{nil, {}} {
		if procs.New(f, 0) != nil {
			t.Error("processes over nothing")
		}
	}
	for _, k := range []*kernel.Kernel{nil, {}} {
		if oracle.Check(k) != 0 {
			t.Error("a rule of nothing is broken")
		}
	}
	made, chosen := draw.New([]int{1}), draw.Weigh(x, nil)
	for _, d := range []*draw.Draws{nil, {}} {
		if n, ok := chosen.Pick(d, -1); n != 0 || ok {
			t.Error(n, ok)
		}
		handed(t, x, chosen, d)
	}
	for _, c := range []*draw.Choice{nil, {}} {
		_, a := gen.Program(x, c, made, 5)
		_, b := mutate.Insert(x, c, nil, made, 5)
		_, m := mutate.Mutate(x, c, nil, nil, made, 5)
		if a != api.ErrNil || b != api.ErrNil || m != api.ErrNil || made.Used() != 0 {
			t.Error(a, b, m, made.Used())
		}
	}
}

// handed hands draws that no call made to all calls that take some.
func handed(t *testing.T, x api.Table, c *draw.Choice, d *draw.Draws) {
	t.Helper()
	a, e := gen.Arg(x, 0, nil, d)
	s, f := gen.Step(x, 0, nil, d)
	if !reflect.DeepEqual(a, api.Arg{}) || e != api.ErrNil || !reflect.DeepEqual(s, api.Step{}) || f != api.ErrNil {
		t.Error(a, e, s, f)
	}
	for i, call := range []func() (api.Program, api.Errno){
		func() (api.Program, api.Errno) { return gen.Program(x, c, d, 5) },
		func() (api.Program, api.Errno) { return mutate.Insert(x, c, nil, d, 5) },
		func() (api.Program, api.Errno) { return mutate.Remove(x, nil, d) },
		func() (api.Program, api.Errno) { return mutate.Change(x, nil, d) },
		func() (api.Program, api.Errno) { return mutate.Splice(x, nil, nil, d, 5) },
		func() (api.Program, api.Errno) { return mutate.Mutate(x, c, nil, nil, d, 5) },
	} {
		if p, e := call(); p != nil || e != api.ErrNil {
			t.Error(i, p, e)
		}
	}
}

// isFault asks whether an error is a fault as a value, with one number of api's alone.
func isFault(t *testing.T, err error, want api.Fault) {
	t.Helper()
	var f api.Fault
	if err != error(want) || !errors.As(err, &f) || f != want {
		t.Errorf("%v, want %v", err, want)
	}
	for n := range api.Errno(300) {
		if errors.Is(err, n) != (n == want.Why) {
			t.Errorf("%v: number %d", want, n)
		}
	}
}

// TestErrors: of each call that answers an error.
func TestErrors(t *testing.T) {
	x, err := types.Compile("call getpid(19)()")
	if err != nil {
		t.Fatal(err)
	}
	_, err = lex.Scan("a %")
	isFault(t, err, api.Fault{At: 2, Why: api.ErrChar})
	_, err = parse.Parse("const a 5")
	isFault(t, err, api.Fault{At: 8, Why: api.ErrToken})
	_, err = types.Compile("\ncall f(1)(a zz)")
	isFault(t, err, api.Fault{At: 1, Why: api.ErrName})
	_, err = types.Check([]api.Decl{{Kind: api.DeclConst, Name: "a"}, {Kind: api.DeclConst, Name: "a"}})
	isFault(t, err, api.Fault{At: 1, Why: api.ErrTwice})
	wrong := api.Program{{}, {Call: 1}}
	isFault(t, prog.Check(x, wrong), api.Fault{At: 1, Why: api.ErrCall})
	_, err = text.Parse(x, "getpid()\ngetpid\n")
	isFault(t, err, api.Fault{At: 9, Why: api.ErrText})
	_, _, err = shrink.Shrink(x, wrong, 63, nil)
	isFault(t, err, api.Fault{At: 1, Why: api.ErrCall})
	_, _, err = shrink.Shrink(x, wrong[:1], 63, nil)
	isFault(t, err, api.Fault{Why: api.ErrFault})
	d, _ := disk.New(3)
	_, err = fuzz.New(d, "\ncall", 63)
	isFault(t, err, api.Fault{At: 5, Why: api.ErrToken})
	_, err = fuzz.New(d, "", 63)
	isFault(t, err, api.Fault{Why: api.ErrArg})
}
