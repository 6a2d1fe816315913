package whole_test

import (
	"errors"
	"fmt"
	"math"
	"reflect"
	"strings"
	"testing"

	"dredger/api"
	"dredger/binary"
	"dredger/draw"
	"dredger/gen"
	"dredger/layout"
	"dredger/mutate"
	"dredger/prog"
	"dredger/run"
	"dredger/text"
	"dredger/types"
)

// author writes descriptions, with a slip now and then.
type author struct {
	*numbers
	slips int // in how many of a thousand choices it slips
}

func (a author) slip() bool { return a.next(1000) < a.slips }

// word is one of a list, or by a slip any other.
func (a author) word(l ...string) string {
	if a.slip() {
		return pick(a.numbers, "zz", "int8", "s0", "in", "5", "-1", "\"", "[", "", "ptr", "r0", "c0", "g0")
	}
	return pick(a.numbers, l...)
}

func (a author) integer() string { return a.word("int8", "int16", "int32", "int64") }

// ends is a range from 0 to a top.
func (a author) ends(top int) string {
	lo := a.next(top + 1)
	hi := lo + a.next(top-lo+1)
	if a.slip() {
		lo, hi = hi+1, lo-1
	}
	return fmt.Sprintf("%d, %d", lo, hi)
}

// typed is a type that may stand somewhere, of structs and unions those behind a place.
func (a author) typed(where string, from, deep int) string {
	kinds := []string{"int", "range", "const", "named", "flags", "res"}
	switch where {
	case "call":
		kinds = append(kinds, "ptr", "ptr", "ptr", "ptr", "len", "len")
	case "struct":
		kinds = append(kinds, "array", "group", "text", "data", "data", "len")
	case "inner":
		kinds = append(kinds, "array", "group", "group", "group", "text", "data")
	}
	inner := func() string {
		if deep > 3 {
			return "int8"
		}
		return a.typed("inner", from, deep+1)
	}
	switch a.word(kinds...) {
	case "range":
		return a.integer() + "[" + a.ends(200) + "]"
	case "const":
		return fmt.Sprintf("const[%d, %s]", a.next(9)-4, a.integer())
	case "named":
		return "const[" + a.word("c0", "c1") + ", " + a.integer() + "]"
	case "flags":
		return "flags[g0, " + a.integer() + "]"
	case "res":
		return a.word("r0", "r1")
	case "len":
		return "len[a, " + a.integer() + "]"
	case "ptr":
		return "ptr[" + a.word("in", "out", "inout") + ", " + inner() + "]"
	case "array":
		return "array[" + inner() + ", " + a.ends(4) + "]"
	case "text":
		return a.word(`text["/a"]`, `text["", "/a/b"]`, `text["/b", "/c", "/d"]`)
	case "data":
		return a.word("data["+a.ends(64)+"]", "data[17]", "data[0, 3]")
	case "group":
		if from < 5 {
			return fmt.Sprint("s", from+a.next(5-from))
		}
	}
	return a.integer()
}

// fields is some, of which the first is called a.
func (a author) fields(where string, from, least int) string {
	var l []string
	for i := range least + a.next(4) {
		y := a.typed(where, from, 0)
		for i == 0 && strings.HasPrefix(y, "len") && !a.slip() {
			y = a.typed(where, from, 0)
		}
		l = append(l, string(rune('a'+i))+" "+y)
	}
	return strings.Join(l, ", ")
}

func (a author) description() string {
	l := []string{"resource r0[int32]: 0, -1", "resource r1[" + a.integer() + "]: 7", "flags g0 = 1, 2, 8, 64", "const c0 = 5", "const c1 = -1"}
	for i := range 5 {
		if a.next(3) == 0 {
			l = append(l, fmt.Sprintf("union s%d { %s }", i, a.fields("inner", i+1, 1)))
		} else {
			l = append(l, fmt.Sprintf("struct s%d { %s }", i, a.fields("struct", i+1, 1)))
		}
	}
	number := a.next(15)
	for i := range 1 + a.next(5) {
		l = append(l, fmt.Sprintf("call f%d(%d)(%s) %s", i, number, a.fields("call", 0, 0), a.word("r0", "r1", "", "")))
		number += 1 + a.next(3)
	}
	for range a.slips / 10 {
		i, k := a.next(len(l)), a.next(len(l))
		l[i], l[k] = l[k], l[i]
	}
	s := strings.Join(l, "\n")
	for a.slip() && a.slip() {
		i := a.next(len(s))
		s = s[:i] + pick(a.numbers, "", " ", "\n", "x", ",", "(", "#", "\xff") + s[i+a.next(2):]
	}
	return s
}

// script is draws: small and great numbers, few or many of them.
func script(n *numbers) (l []int) {
	for range pick(n, 0, n.next(10), n.next(100), 500) {
		l = append(l, pick(n, n.next(1<<31), n.next(300), n.next(8), -1-n.next(8), math.MinInt, math.MaxInt))
	}
	return l
}

// compiled is P1's first half: faults with a place, or a table that may be.
func compiled(t *testing.T, k met, s string) (api.Table, bool) {
	t.Helper()
	x, err := types.Compile(s)
	if err == nil {
		if k["table"]++; !prog.Can(x) {
			t.Fatalf("%q: %+v", s, x)
		}
		return x, true
	}
	var f api.Fault
	if !errors.As(err, &f) || err != error(f) || f.At < 0 || f.At > len(s) || !errors.Is(err, f.Why) || f.Why == api.OK || !reflect.DeepEqual(x, api.Table{}) {
		t.Fatalf("%q: %+v, %v", s, x, err)
	}
	k[f.Why.Error()]++
	return x, false
}

// TestTyped: P1, of descriptions with and without slips, with every bound.
func TestTyped(t *testing.T) {
	n := numbers(3)
	k := met{}
	for i := range 600 {
		s := author{&n, pick(&n, 0, 0, 5, 40)}.description()
		x, ok := compiled(t, k, s)
		if !ok {
			continue
		}
		c := draw.Weigh(x, nil)
		p, e := gen.Program(x, c, draw.New(script(&n)), 5)
		if e != api.OK {
			t.Fatal(e)
		}
		for j := range 13 {
			bound := (i + j*5) % 65
			q, e := gen.Program(x, c, draw.New(script(&n)), bound)
			if why := prog.Check(x, q); e != api.OK || why != nil || len(q) > bound {
				t.Fatalf("%q, %d: %+v, %v, %v", s, bound, q, e, why)
			}
			backAndForth(t, k, x, q)
			r, e := mutate.Mutate(x, c, p, q, draw.New(script(&n)), bound)
			if why := prog.Check(x, r); e != api.OK || why != nil || len(r) > max(bound, len(p)) {
				t.Fatalf("%q, %d: %+v, %v, %v", s, bound, r, e, why)
			}
			backAndForth(t, k, x, r)
			c, p = draw.Weigh(x, []api.Program{p, q, r}), r
		}
	}
	k.enough(t, 100, "table")
	k.enough(t, 3, api.ErrName.Error(), api.ErrType.Error(), api.ErrEmpty.Error(), api.ErrToken.Error(), api.ErrQuote.Error(), api.ErrRoom.Error(), "runs", "long")
}

// backAndForth is P2 of a program: its text is read as it, its bytes as what it is laid out to; by which it is run, too.
func backAndForth(t *testing.T, k met, x api.Table, p api.Program) {
	t.Helper()
	s, e := text.Print(x, p)
	q, err := text.Parse(x, s)
	if e != api.OK || err != nil || !prog.Same(p, q) {
		t.Fatalf("%+v: %q, %v; %+v, %v", p, s, e, q, err)
	}
	if len(p) > 16 {
		k["long"]++
	}
	l, e := layout.Lay(x, p)
	if e != api.OK {
		k[e.Error()]++
		return
	}
	b, e := binary.Encode(l)
	if e != api.OK {
		k["too much"]++
		return
	}
	again, e := binary.Decode(b)
	if e != api.OK || !reflect.DeepEqual(plain(again), plain(l)) {
		t.Fatalf("%+v: %+v, %v", l, again, e)
	}
	k["runs"]++
	r, e := run.Program(x, p, 0, nil)
	other, why := run.Run(b, 0, nil)
	if e != api.OK || why != api.OK || !reflect.DeepEqual(trim(r), trim(other)) {
		t.Fatalf("%+v: %+v, %v, %+v, %v", p, r, e, other, why)
	}
}

// plain is an executed program whose empty lists are nil.
func plain(l []api.Exec) (out []api.Exec) {
	for _, x := range l {
		y := api.Exec{Number: x.Number, Words: append([]api.Word(nil), x.Words...)}
		for _, c := range x.Copies {
			c.Bytes = append([]byte(nil), c.Bytes...)
			y.Copies = append(y.Copies, c)
		}
		out = append(out, y)
	}
	return out
}

// TestDrawnOnKernel: P4 of programs that are drawn and mutated, whatever the table says of the kernel's calls.
func TestDrawnOnKernel(t *testing.T) {
	n := numbers(4)
	k := met{}
	for range 400 {
		x, ok := compiled(t, k, author{&n, 0}.description())
		if !ok {
			continue
		}
		c := draw.Weigh(x, nil)
		for range 5 {
			p, _ := gen.Program(x, c, draw.New(script(&n)), 20)
			l, e := layout.Lay(x, p)
			if e == api.OK && binary.Can(l) {
				k.runs(t, l, pick(&n, 0, 63, n.next(64)), (&maker{numbers: &n}).picks())
				k["runs"]++
			}
		}
	}
	k.enough(t, 500, "runs")
}
