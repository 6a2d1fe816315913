package whole_test

import (
	"reflect"
	"slices"
	"strings"
	"testing"

	"dredger/api"
	"dredger/corpus"
	"dredger/disk"
	"dredger/draw"
	"dredger/fuzz"
	"dredger/gen"
	"dredger/prog"
	"dredger/run"
	"dredger/shrink"
	"dredger/text"
	"dredger/types"
)

// kernelCalls is a description of some of the kernel's calls.
const kernelCalls = `
resource fd[int32]: 5, 0, 1
call open(0)(p ptr[in, text["/a", "/b"]], f int8[0, 63]) fd
call close(1)(f fd)
call read(2)(f fd, b ptr[out, data[0, 20]], n len[b, int32])
call write(3)(f fd, b ptr[in, data[0, 20]], n len[b, int32])
call unlink(7)(p ptr[in, text["/a", "/b"]])
call mkdir(8)(p ptr[in, text["/a", "/b"]])
call link(10)(p ptr[in, text["/a", "/b"]], q ptr[in, text["/a", "/b"]])
call pipe(14)(p ptr[out, array[fd, 2]])
`

// program is one of kernelCalls; paths stand as they are.
func program(t *testing.T, l ...string) (api.Table, api.Program) {
	t.Helper()
	x, err := types.Compile(kernelCalls)
	if err != nil {
		t.Fatal(err)
	}
	s := strings.NewReplacer("/a", `&"2f61"`, "/b", `&"2f62"`).Replace(strings.Join(l, "\n"))
	p, err := text.Parse(x, s)
	if err != nil {
		t.Fatal(s, err)
	}
	return x, p
}

func report(t *testing.T, defects int, l ...string) api.Report {
	t.Helper()
	x, p := program(t, l...)
	r, e := run.Program(x, p, defects, nil)
	if e != api.OK {
		t.Fatal(e)
	}
	return r
}

// TestExamples: those of the whole, by their numbers.
func TestExamples(t *testing.T) {
	t.Run("1", func(t *testing.T) {
		r := report(t, 0, "r0 = open(/a, 11)", `write(r0, &"7879", 2)`, "close(r0)")
		want := api.Report{Results: []api.Result{{Proc: 1}, {Proc: 1, Step: 1, Value: 2}, {Proc: 1, Step: 2}}, Points: []int{0, 64, 192}}
		if !reflect.DeepEqual(r, want) {
			t.Errorf("%+v", r)
		}
	})
	t.Run("2", func(t *testing.T) {
		// A directory can't be linked (P6.2): what is linked is a file.
		if r := report(t, api.DefectLinks, "mkdir(/a)", "link(/a, /b)", "unlink(/b)"); r.Fault != 0 || r.Results[1].Err != api.EPERM {
			t.Errorf("%+v", r)
		}
		x, p := program(t, "r0 = open(/a, 10)", "close(r0)", "mkdir(/a)", "link(/a, /b)", "mkdir(/b)", "unlink(/a)", "unlink(/b)")
		_, want := program(t, "r0 = open(/a, 10)", "link(/a, /b)", "unlink(/a)")
		if q, _, err := shrink.Shrink(x, p, api.DefectLinks, nil); err != nil || !prog.Same(q, want) {
			t.Error(q, err)
		}
	})
	t.Run("3", func(t *testing.T) {
		x, p := program(t, "r0 = open(/a, 11)", "close(r0)")
		_, want := program(t, "close(5)")
		if q, e := prog.Remove(x, p, 0); e != api.OK || !prog.Same(q, want) {
			t.Error(q, e)
		}
	})
	t.Run("4", func(t *testing.T) {
		x, want := program(t, "r0 = open(nil, 0)")
		d := draw.New([]int{10, 11})
		if d.Next(5) != 0 || d.Next(5) != 1 || d.Next(5) != 0 {
			t.Error("other draws")
		}
		if p, e := gen.Program(x, draw.Weigh(x, nil), d, 10); e != api.OK || !prog.Same(p, want) {
			t.Error(p, e)
		}
	})
	t.Run("5", func(t *testing.T) {
		read := `read(0, &"0000", 2)`
		r := report(t, 0, "pipe(&{5, 5})", "close(1)", read)
		if r.Cut || !slices.Contains(r.Results, api.Result{Proc: 1, Step: 2}) || slices.Contains(r.Points, 191) {
			t.Errorf("%+v", r)
		}
		if r := report(t, 0, "pipe(&{5, 5})", read); !r.Cut || len(r.Results) != 1 || !slices.Contains(r.Points, 191) {
			t.Errorf("%+v", r)
		}
	})
	t.Run("6", full)
	t.Run("7", crash)
	t.Run("8", func(t *testing.T) {
		_, err := types.Compile("const a = 1\ncall f(3)(a int9)\n")
		isFault(t, err, api.Fault{At: 12, Why: api.ErrName})
	})
}

func full(t *testing.T) {
	d, _ := disk.New(6)
	c, _ := corpus.Open(d)
	was := api.Entry{Key: "a", Program: "x", Points: []int{3}}
	if e := c.Put(was); e != api.OK {
		t.Fatal(e)
	}
	image := d.Image()
	for _, key := range []string{"a", "b"} {
		if e := c.Put(api.Entry{Key: key, Program: strings.Repeat("y", 300)}); e != api.ErrFull {
			t.Error(e)
		}
	}
	x, e := c.Get("a")
	if !reflect.DeepEqual(d.Image(), image) || e != api.OK || !same(x, was) || len(c.Keys()) != 1 {
		t.Error("something has changed", x, e)
	}
}

func crash(t *testing.T) {
	description := "call getpid(19)()"
	d, _ := disk.New(40)
	l, err := fuzz.New(d, description, 0)
	if err != nil {
		t.Fatal(err)
	}
	before := d.Image()
	if s, e := l.Turn(nil, nil); s != "new p00" || e != api.OK {
		t.Fatal(s, e)
	}
	after := d.Image()
	count := [2]int{}
	for torn := range api.Size + 1 {
		c, _ := disk.Of(before)
		for i := range after {
			if !slices.Equal(before[i], after[i]) {
				c.Write(i, after[i])
				c.Crash(0, []int{i}, torn)
			}
		}
		again, err := fuzz.New(c, description, 0)
		if err != nil || len(again.Entries()) > 1 {
			t.Fatal(err)
		}
		count[len(again.Entries())]++
	}
	if count != [2]int{api.Size, 1} {
		t.Error(count)
	}
}
