package run_test

import (
	"math"
	"slices"
	"strings"
	"testing"

	"dredger/api"
	"dredger/run"
	"dredger/types"
)

func TestExample(t *testing.T) {
	l := []api.Exec{call(api.CallGetpid), call(api.CallClose, 5)}
	execs(t, l, 0, nil, api.Report{Results: []api.Result{did(1, 0, 1), failed(1, 1, api.EBADF)}, Points: []int{73, 1216}})
}

// TestOpenWriteClose: the first of the document's examples.
func TestOpenWriteClose(t *testing.T) {
	l := []api.Exec{open("/a"), word(call(api.CallWrite, 9, path, 2), 0, 0), word(call(api.CallClose, 9), 0, 0)}
	execs(t, l, 0, nil, api.Report{Results: []api.Result{did(1, 0, 0), did(1, 1, 2), did(1, 2, 0)}, Points: []int{0, 64, 192}})
}

// TestNothing: a program without calls comes to its end at once.
func TestNothing(t *testing.T) {
	for _, picks := range [][]int{nil, {}, {5, -1}} {
		execs(t, nil, 0, picks, api.Report{})
		execs(t, []api.Exec{}, 63, picks, api.Report{})
	}
}

// TestPoints: each once, rising; of a number that is no call it is 0.
func TestPoints(t *testing.T) {
	pid := call(api.CallGetpid)
	execs(t, []api.Exec{pid, pid, call(api.CallDup, 3), call(api.CallClose, 3), call(api.CallDup, 3), pid}, 0, nil, api.Report{
		Results: []api.Result{did(1, 0, 1), did(1, 1, 1), failed(1, 2, api.EBADF), failed(1, 3, api.EBADF), failed(1, 4, api.EBADF), did(1, 5, 1)},
		Points:  []int{64 + 9, 5*64 + 9, 19 * 64},
	})
	for _, number := range []int{20, 63} {
		execs(t, []api.Exec{call(number, 1, 2)}, 0, nil, api.Report{Results: []api.Result{failed(1, 0, api.ENOSYS)}, Points: []int{0}})
	}
}

// TestWords: a value, a result, or the value, if there is no result.
func TestWords(t *testing.T) {
	results(t, []api.Exec{
		open("/a"),
		call(api.CallSeek, 0, 40),
		call(api.CallSeek, 5, 40),
		tell(1), tell(2), tell(0),
		word(call(api.CallSeek, 0, 3, 7), 2, 0), // from the beginning
		word(call(api.CallSeek, 7, 3, 0), 0, 2), // descriptor 7, as step 2 has no result
	}, nil, did(1, 0, 0), did(1, 1, 40), failed(1, 2, api.EBADF), did(1, 3, 40), did(1, 4, 500), did(1, 5, 0), did(1, 6, 3), failed(1, 7, api.EBADF))
	// As many words as there may be, of which the call looks at the first ones.
	results(t, []api.Exec{open("/a"), call(api.CallSeek, 0, 4, 0, 1, 2, 3), call(api.CallSeek)}, nil, did(1, 0, 0), did(1, 1, 4), did(1, 2, 0))
}

// TestCopies: bytes lie in the memory ahead of the call, one by one.
func TestCopies(t *testing.T) {
	make := call(api.CallMkdir, path)
	stat := func(c ...api.Copy) api.Exec { return with(call(api.CallStat, other, space), c...) }
	results(t, []api.Exec{
		with(make, at(path, "/ab")),
		stat(at(other, "/ab")),
		stat(at(other, "/a"), at(other+2, "c")),
		// What is laid later lies above.
		stat(at(other, "/xyz"), at(other+1, "ab\x00")),
		stat(at(other+1, "ab\x00"), at(other, "/x")),
		// It stays there.
		call(api.CallStat, path, space),
		call(api.CallStat, other, space),
	}, nil, did(1, 0, 0), did(1, 1, 0), failed(1, 2, api.ENOENT), did(1, 3, 0), failed(1, 4, api.ENOENT), did(1, 5, 0), failed(1, 6, api.ENOENT))
	// What does not lie within is left out, and what stands behind it is laid.
	results(t, []api.Exec{
		with(make, at(0, "/ab"), at(path-1, "/q"), at(1<<20, "x"), at(path+2047, "xx"), at(path, "/ab"), at(path+2048, "x")),
		stat(at(other, "/ab")),
		stat(at(other, "/"+strings.Repeat("x", 2016))),
		stat(at(other, strings.Repeat("x", 2016))),
	}, nil, did(1, 0, 0), did(1, 1, 0), did(1, 2, 0), failed(1, 3, api.EFAULT))
}

// TestCopiesOfResults: in as many bytes as are asked for, the lowest first; the value, if there is no result.
func TestCopiesOfResults(t *testing.T) {
	const ab = 'a' + 'b'<<8
	mkdir := func(name string) api.Exec { return with(call(api.CallMkdir, path), at(path, name+"\x00")) }
	stat := func(c ...api.Copy) api.Exec {
		return with(call(api.CallStat, other, space), append([]api.Copy{at(other, "/0123456789\x00")}, c...)...)
	}
	results(t, []api.Exec{
		open("/f"), mkdir("/ab"), mkdir("/a1"), mkdir("/a"),
		call(api.CallSeek, 0, ab), call(api.CallSeek, 5, 0),
		stat(of(other+1, 4, 1, 0)),
		stat(of(other+1, 4, 1, 0), at(other+3, "\x00")),
		stat(of(other+1, 4, 2, 0)),
		stat(of(other+1, 4, 2, 0), at(other+3, "\x00")),
		stat(of(other+1, 4, 4, 0)),
		stat(of(other+1, 4, 8, 0)),
		stat(of(other+1, 5, 4, 'a')),
		stat(of(other+1, 5, 4, ab)),
		stat(of(other+1, 5, 1, ab), at(other+2, "\x00")),
		stat(of(other+1, 4, 4, 'x')),
		stat(of(path-1, 4, 4, 0), of(path+2045, 4, 4, 0), of(other+1, 4, 8, 0)),
	}, nil,
		did(1, 0, 0), did(1, 1, 0), did(1, 2, 0), did(1, 3, 0), did(1, 4, ab), failed(1, 5, api.EBADF),
		failed(1, 6, api.ENAME), did(1, 7, 0), failed(1, 8, api.ENAME), did(1, 9, 0), did(1, 10, 0), did(1, 11, 0),
		did(1, 12, 0), did(1, 13, 0), did(1, 14, 0), did(1, 15, 0), did(1, 16, 0))
	// A value below 0 is laid as it is.
	results(t, []api.Exec{open("/f"), call(api.CallDup, 7), with(call(api.CallStat, other, space), at(other, "/x"), of(other, 1, 8, -1))}, nil,
		did(1, 0, 0), failed(1, 1, api.EBADF), failed(1, 2, api.EINVAL))
}

// TestRefused: whatever may not be is refused, with an empty report.
func TestRefused(t *testing.T) {
	for _, l := range [][]api.Exec{
		make([]api.Exec, 65),
		{call(64)}, {call(-1)}, {{Words: make([]api.Word, 1)}},
		{call(0, 1, 2, 3, 4, 5, 6, 7)},
		{call(0, 1<<60+1)}, {call(api.CallGetpid), call(0, math.MinInt)},
		{call(0), word(call(0, 1), 0, 1)}, {word(call(0, 1), 0, -2)},
		{with(call(0), at(path, ""))}, {with(call(0), at(-1, "x"))}, {with(call(0), at(1<<20+1, "x"))},
		{call(0), with(call(0), of(path, 0, 3, 0))}, {with(call(0), of(path, 0, 4, 0))},
	} {
		if r, e := run.Exec(l, 0, nil); !same(r, api.Report{}) || e != api.ErrArg {
			t.Errorf("%+v: %+v, %v", l, r, e)
		}
	}
	for _, s := range []string{"", "\x01", "\x01\x13\x00", "\x01\x13\x00\x00\x00", "\x41", "\x09", "\x01\x40\x00\x00", "\x80\x00"} {
		if r, e := run.Run([]byte(s), 0, nil); !same(r, api.Report{}) || e != api.ErrCode {
			t.Errorf("%q: %+v, %v", s, r, e)
		}
	}
	want := api.Report{Results: []api.Result{did(1, 0, 1)}, Points: []int{1216}}
	if r, e := run.Run([]byte("\x01\x13\x00\x00"), 0, nil); e != api.OK || !same(r, want) {
		t.Error(r, e)
	}
	if r, e := run.Run([]byte{0}, 0, nil); e != api.OK || !same(r, api.Report{}) {
		t.Error(r, e)
	}
}

func value(v int) api.Arg         { return api.Arg{Kind: api.ArgValue, Value: v} }
func ref(i int) api.Arg           { return api.Arg{Kind: api.ArgRef, Value: i} }
func ptr(kids ...api.Arg) api.Arg { return api.Arg{Kind: api.ArgPtr, Kids: kids} }
func data(s string) api.Arg       { return api.Arg{Kind: api.ArgData, Bytes: []byte(s)} }

func step(call int, args ...api.Arg) api.Step { return api.Step{Call: call, Args: args} }

const description = `
resource fd[int32]: -1, 0
call open(0)(p ptr[in, text["/a", "/b"]], f int32) fd
call write(3)(r fd, p ptr[in, data[0, 64]], n len[p, int32])
call dup2(6)(r fd, s fd) fd
call getpid(19)()
`

func TestProgram(t *testing.T) {
	x, e := types.Compile(description)
	if e != nil {
		t.Fatal(e)
	}
	p := api.Program{
		step(0, ptr(data("/a")), value(11)),
		step(0, ptr(data("/b")), value(11)),
		step(1, ref(1), ptr(data("hello")), value(5)),
		step(3),
		step(2, ref(0), ref(1)),
		step(1, value(-1), ptr(data("")), value(0)),
	}
	want := api.Report{Results: []api.Result{did(1, 0, 0), did(1, 1, 1), did(1, 2, 5), did(1, 3, 1), did(1, 4, 1), failed(1, 5, api.EBADF)}, Points: []int{0, 192, 201, 384, 1216}}
	if r, e := run.Program(x, p, 0, nil); e != api.OK || !same(r, want) {
		t.Errorf("%+v, %v", r, e)
	}
	want.Results, want.Points, want.Fault = want.Results[:5], []int{0, 192, 384, 1216}, 4
	if r, e := run.Program(x, p, api.DefectDup, nil); e != api.OK || !same(r, want) {
		t.Errorf("%+v, %v", r, e)
	}
	if r, e := run.Program(x, nil, 63, nil); e != api.OK || !same(r, api.Report{}) {
		t.Errorf("%+v, %v", r, e)
	}
}

// TestProgramRefused: layout's numbers; ErrArg of what is laid out to what may not be.
func TestProgramRefused(t *testing.T) {
	x := api.Table{
		Types: []api.Type{
			{Kind: api.TypeConst, Size: 8, Lo: 1 << 61},
			{Kind: api.TypeData, Lo: 64, Hi: 64},
			{Kind: api.TypeArray, Lo: 8, Hi: 8, Elems: []int{1}},
			{Kind: api.TypePtr, Size: 8, Dir: api.DirIn, Elems: []int{2}},
			{Kind: api.TypeRes, Size: 4, Of: "fd", Values: []int{0}},
		},
		Calls: []api.Call{
			{Name: "big", Number: 19, Args: []int{0}, Names: []string{"n"}},
			{Name: "room", Number: 19, Args: []int{3}, Names: []string{"p"}},
			{Name: "use", Number: 1, Args: []int{4}, Names: []string{"r"}},
			{Name: "make", Number: 5, Ret: "fd"},
		},
	}
	full := step(1, ptr(api.Arg{Kind: api.ArgGroup, Kids: slices.Repeat([]api.Arg{data(strings.Repeat("x", 64))}, 8)}))
	refused := func(x api.Table, p api.Program, why api.Errno) {
		t.Helper()
		if r, e := run.Program(x, p, 63, []int{1}); !same(r, api.Report{}) || e != why {
			t.Errorf("%+v: %+v, %v, want %v", p, r, e, why)
		}
	}
	refused(x, api.Program{step(0, value(1<<61))}, api.ErrArg)
	refused(x, api.Program{step(3), step(0, value(1<<61))}, api.ErrArg)
	refused(x, slices.Repeat(api.Program{full}, 5), api.ErrRoom)
	if r, e := run.Program(x, slices.Repeat(api.Program{full}, 4), 0, nil); e != api.OK || len(r.Results) != 4 {
		t.Error(r, e)
	}
	refused(x, make(api.Program, 65), api.ErrFull)
	refused(x, api.Program{step(4)}, api.ErrCall)
	refused(x, api.Program{step(0)}, api.ErrCount)
	refused(x, api.Program{step(0, data(""))}, api.ErrKind)
	refused(x, api.Program{step(0, value(2))}, api.ErrValue)
	refused(x, api.Program{step(2, ref(0))}, api.ErrRef)
	y := api.Table{Types: []api.Type{{Kind: api.TypeLen, Size: 4, Of: "n"}}, Calls: []api.Call{{Args: []int{0}, Names: []string{"n"}}}}
	refused(y, api.Program{step(0, value(3))}, api.ErrLen)
	refused(api.Table{Types: []api.Type{{}}}, nil, api.ErrArg)
	refused(api.Table{Types: []api.Type{{}}}, api.Program{step(4)}, api.ErrArg)
}
