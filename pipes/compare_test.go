package pipes_test

import (
	"fmt"
	"math"
	"slices"
	"testing"

	"dredger/api"
)

// told is a call, as it was made, and what it answered.
type told struct {
	call  string
	value any
	waits bool
	err   api.Err
}

// pipe is a pipe's number, or nearly.
func (x twin) pipe() int {
	if x.next(20) == 0 {
		return pick(x.numbers, math.MinInt, -1, 0, api.MaxPipes+1, math.MaxInt)
	}
	return 1 + x.next(api.MaxPipes)
}

func (x twin) count() int {
	if x.next(10) == 0 {
		return pick(x.numbers, math.MinInt, -1, 0, math.MaxInt)
	}
	return x.next(api.Pipe + 3)
}

// step makes one call of both, and tells its name, and what they answered.
func (x twin) step() (name string, got, want told) {
	n := x.pipe()
	switch name = pick(x.numbers, "Make", "Read", "Read", "Write", "Write", "Write", "Hold", "Drop", "Drop"); name {
	case "Make":
		v, e := x.table.Make()
		w, f := x.model.make()
		got, want = told{"()", v, false, e}, told{"()", w, false, f}
	case "Read":
		count := x.count()
		v, waits, e := x.table.Read(n, count)
		w, must, f := x.model.readFrom(n, count)
		call := fmt.Sprintf("(%d, %d)", n, count)
		got, want = told{call, string(v), waits, e}, told{call, w, must, f}
	case "Write":
		b := x.bytes(x.next(api.Pipe + 3))
		v, waits, e := x.table.Write(n, b)
		w, must, f := x.model.writeTo(n, string(b))
		call := fmt.Sprintf("(%d, %q)", n, b)
		got, want = told{call, v, waits, e}, told{call, w, must, f}
	default:
		got, want = x.holdOrDrop(name, n)
	}
	return name, got, want
}

// holdOrDrop does so many times over now and then, as an end may be held often.
func (x twin) holdOrDrop(name string, n int) (got, want told) {
	writer := x.next(2) == 0
	got.call = fmt.Sprintf("(%d, %v)", n, writer)
	want.call = got.call
	for range pick(x.numbers, 1, 1, 1, 1, 1, 2, 2, 700) {
		if name == "Hold" {
			got.err, want.err = x.table.Hold(n, writer), x.model.hold(n, writer)
		} else {
			got.err, want.err = x.table.Drop(n, writer), x.model.drop(n, writer)
		}
		if got.err != want.err {
			break
		}
	}
	return got, want
}

// compare makes many calls of both, holds each answer and what is told behind it against the model, and counts what was answered.
func compare(t *testing.T, seed, defects, steps int, met map[string]int) {
	t.Helper()
	x := newTwin(seed, defects)
	for i := range steps {
		before := x.table.Look()
		name, got, want := x.step()
		if got != want {
			t.Fatalf("defects %d, step %d: %s%s: %v, want %v", defects, i, name, got.call, got, want)
		}
		is := x.table.Look()
		if !slices.Equal(is, x.model.look()) {
			t.Fatalf("defects %d, step %d: behind %s%s: %v, want %v", defects, i, name, got.call, is, x.model.look())
		}
		if (got.err != 0 || got.waits) && name != "Hold" && name != "Drop" && !slices.Equal(is, before) {
			t.Fatalf("defects %d, step %d: %s%s has changed something: %v", defects, i, name, got.call, got)
		}
		for _, p := range is {
			if p.Bytes > api.Pipe {
				t.Fatalf("there are %d bytes in a pipe", p.Bytes)
			}
		}
		met[fmt.Sprint(name, " ", int(got.err), " ", got.waits)]++
	}
}

// promised is what the chapter names for each call: an error, and whether it must wait.
func promised() []string {
	return []string{
		"Make 0 false", "Make 23 false",
		"Read 0 false", "Read 0 true", "Read 9 false", "Read 22 false",
		"Write 0 false", "Write 0 true", "Write 9 false", "Write 32 false",
		"Hold 0 false", "Hold 9 false", "Hold 11 false",
		"Drop 0 false", "Drop 9 false", "Drop 22 false",
	}
}

// TestAgainstTheModel holds tables with and without the defect against the model, and meets all that may be answered, and nothing else.
func TestAgainstTheModel(t *testing.T) {
	met := map[string]int{}
	for seed := range 40 {
		compare(t, seed, 0, 1000, met)
		compare(t, 1000+seed, api.DefectWriter, 400, met)
	}
	for _, what := range promised() {
		if met[what] == 0 {
			t.Errorf("never answered: %s", what)
		}
		delete(met, what)
	}
	if len(met) > 0 {
		t.Error("answered, and not named by the chapter:", met)
	}
}

// TestDefectsThatMeanNothing: other bits play no part.
func TestDefectsThatMeanNothing(t *testing.T) {
	for i, defects := range []int{1, 2, 4, 7, 16, 32, 1 << 40, math.MinInt, ^8, -1, math.MaxInt, 63} {
		compare(t, 2000+i, defects, 500, map[string]int{})
	}
}

// TestInOrder: what is read of a pipe are the bytes that went in, in order, none twice, whatever is read and written at a time.
func TestInOrder(t *testing.T) {
	for seed := range 20 {
		x := newTwin(3000+seed, 0)
		one, _ := x.table.Make()
		two, _ := x.table.Make()
		in, out := map[int]string{}, map[int]string{}
		for range 2000 {
			n := pick(x.numbers, one, two)
			b := x.bytes(x.next(api.Pipe + 2))
			k, _, _ := x.table.Write(n, b)
			in[n] += string(b[:k])
			n = pick(x.numbers, one, two)
			b, _, _ = x.table.Read(n, x.next(api.Pipe+2))
			out[n] += string(b)
		}
		for _, n := range []int{one, two} {
			rest, _, _ := x.table.Read(n, api.Pipe)
			if len(in[n]) < 1000 || out[n]+string(rest) != in[n] {
				t.Fatalf("pipe %d: %d bytes were written, and others read", n, len(in[n]))
			}
		}
	}
}
