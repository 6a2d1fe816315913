package text_test

import (
	"reflect"
	"testing"

	"dredger/api"
	"dredger/text"
)

// scrawl writes over all of a list, its spare room too.
func scrawl[T any](l []T, with T) {
	l = l[:cap(l)]
	for i := range l {
		l[i] = with
	}
}

// lists is functions that write over the lists of arguments, one each.
func lists(l []api.Arg) (all []func()) {
	for _, a := range l {
		all = append(all, func() { scrawl(a.Bytes, 0xee) })
		all = append(all, lists(a.Kids)...)
	}
	return append(all, func() { scrawl(l, api.Arg{Kind: -99}) })
}

func programLists(p api.Program) (all []func()) {
	for _, s := range p {
		all = append(all, lists(s.Args)...)
	}
	return append(all, func() { scrawl(p, api.Step{Call: -99}) })
}

// TestParsedIsApart: what is done to one list of an answer neither another list nor a later answer can tell.
func TestParsedIsApart(t *testing.T) {
	x := sample(t)
	for k := range programLists(right()) {
		p, e := text.Parse(x, rightText)
		if e != nil {
			t.Fatal(e)
		}
		programLists(p)[k]()
		marred := trim(right())
		programLists(marred)[k]()
		if !reflect.DeepEqual(trim(p), trim(marred)) {
			t.Errorf("list %d: %+v, want %+v", k, p, marred)
		}
	}
	reads(t, x, rightText, right())
	if !reflect.DeepEqual(x, sample(t)) {
		t.Errorf("the table is %+v", x)
	}
}

// TestPrintedIsApart: nothing of the program, or of the table, is changed or kept.
func TestPrintedIsApart(t *testing.T) {
	x, p := sample(t), right()
	s, _ := text.Print(x, p)
	if !reflect.DeepEqual(x, sample(t)) || !reflect.DeepEqual(trim(p), trim(right())) {
		t.Errorf("%+v, %+v", x, p)
	}
	for _, spoil := range programLists(p) {
		spoil()
	}
	if s != rightText {
		t.Errorf("%q", s)
	}
}
