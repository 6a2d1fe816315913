package shrink_test

import (
	"errors"
	"reflect"
	"strings"
	"testing"

	"dredger/api"
	"dredger/run"
	"dredger/shrink"
	"dredger/text"
	"dredger/types"
)

// description is one of the kernel's calls. Where the result of a step that is gone was a descriptor, there is 5, which a process rarely has.
const description = `
resource fd[int32]: 5, 0, 1, 2, 3, 4
resource pid[int32]: 3, 1, 2
call open(0)(p ptr[in, text["/a", "/b", "/c"]], f int8[0, 63]) fd
call close(1)(f fd)
call read(2)(f fd, b ptr[out, data[0, 64]], n len[b, int32])
call write(3)(f fd, b ptr[in, data[0, 64]], n len[b, int32])
call dup(5)(f fd) fd
call dup2(6)(f fd, g fd) fd
call unlink(7)(p ptr[in, text["/a", "/b", "/c"]])
call mkdir(8)(p ptr[in, text["/a", "/b", "/c"]])
call rmdir(9)(p ptr[in, text["/a", "/b", "/c"]])
call link(10)(p ptr[in, text["/a", "/b", "/c"]], q ptr[in, text["/a", "/b", "/c"]])
call rename(11)(p ptr[in, text["/a", "/b", "/c"]], q ptr[in, text["/a", "/b", "/c"]])
call truncate(13)(p ptr[in, text["/a", "/b", "/c"]], n int8[0, 96])
call pipe(14)(p ptr[out, array[fd, 2]])
call fork(15)() pid
call wait(17)(p ptr[inout, pid])
call kill(18)(p pid)
call getpid(19)() fd
`

func sample(t *testing.T) api.Table {
	t.Helper()
	x, err := types.Compile(description)
	if err != nil {
		t.Fatal(err)
	}
	return x
}

// lines is the text of a program, in which paths stand as they are.
func lines(l ...string) string {
	paths := strings.NewReplacer("/a", `&"2f61"`, "/b", `&"2f62"`, "/c", `&"2f63"`, "twenty", `&"`+strings.Repeat("78", 20)+`", 20`, "two", "&{5, 5}")
	return paths.Replace(strings.Join(l, "\n")) + "\n"
}

func program(t *testing.T, x api.Table, l ...string) api.Program {
	t.Helper()
	p, err := text.Parse(x, lines(l...))
	if err != nil {
		t.Fatal(l, err)
	}
	return p
}

// shrinks asks for what a program comes to, by how many runs, and what Least says of both.
func shrinks(t *testing.T, p api.Program, defects int, picks []int, runs int, want ...string) {
	t.Helper()
	x := sample(t)
	q, n, err := shrink.Shrink(x, p, defects, picks)
	s, _ := text.Print(x, q)
	if err != nil || s != lines(want...) || n != runs {
		t.Errorf("%d runs, %v: %q, want %d, %q", n, err, s, runs, lines(want...))
	}
	if !shrink.Least(x, q, defects, picks) || shrink.Least(x, p, defects, picks) != (len(p) == len(want)) {
		t.Errorf("%q: not the least, or already what it came from", s)
	}
	if fault(t, x, q, defects, picks) != fault(t, x, p, defects, picks) {
		t.Errorf("%q: another fault", s)
	}
}

// refuses asks for a fault, which is neither another number nor a pointer.
func refuses(t *testing.T, x api.Table, p api.Program, defects int, picks []int, want api.Fault) {
	t.Helper()
	q, n, err := shrink.Shrink(x, p, defects, picks)
	var f api.Fault
	if q != nil || n != 0 || err != error(want) || !errors.As(err, &f) || f != want || !errors.Is(err, want.Why) || errors.Is(err, api.OK) {
		t.Errorf("%+v: %+v, %d, %v, want %v", p, q, n, err, want)
	}
	if shrink.Least(x, p, defects, picks) {
		t.Errorf("%+v is the least", p)
	}
}

// fault is what a run reports.
func fault(t *testing.T, x api.Table, p api.Program, defects int, picks []int) int {
	t.Helper()
	r, e := run.Program(x, p, defects, picks)
	if e != api.OK {
		t.Fatal(e)
	}
	return r.Fault
}

func trimArgs(l []api.Arg) (out []api.Arg) {
	for _, a := range l {
		out = append(out, api.Arg{Kind: a.Kind, Value: a.Value, Kids: trimArgs(a.Kids), Bytes: append([]byte(nil), a.Bytes...)})
	}
	return out
}

// trim is a program all of whose empty lists are nil, in memory of its own.
func trim(p api.Program) (out api.Program) {
	for _, s := range p {
		out = append(out, api.Step{Call: s.Call, Args: trimArgs(s.Args)})
	}
	return out
}

func same(p, q api.Program) bool { return reflect.DeepEqual(trim(p), trim(q)) }
