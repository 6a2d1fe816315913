package lex_test

import (
	"slices"
	"testing"

	"dredger/api"
	"dredger/lex"
)

// TestAnswersAreNew: what is done to an answer, its spare room too, no later one can tell.
func TestAnswersAreNew(t *testing.T) {
	const s = "a ( 31 )\n\"t\" 5"
	want := slices.Clone(scan(t, s))
	first := scan(t, s)
	for i := range first[:cap(first)] {
		first[:cap(first)][i] = mark(-9, "!")
	}
	if got := scan(t, s); !slices.Equal(got, want) {
		t.Errorf("%+v, want %+v", got, want)
	}
}

// TestTokensAreLeft: Print changes neither tokens nor the room behind them, and looks at none of that.
func TestTokensAreLeft(t *testing.T) {
	l := append(scan(t, "a ( 31 )\n\"t\""), name(0, "no"), number(0, "", 4))
	before := slices.Clone(l)
	if got := lex.Print(l[: len(l)-2 : len(l)]); got != "a ( 31 )\n\"t\"" {
		t.Errorf("%q", got)
	}
	if !slices.Equal(l, before) {
		t.Errorf("%+v, it was %+v", l, before)
	}
}

// TestOrderOfCalls: a fault leaves nothing behind that a later call could tell.
func TestOrderOfCalls(t *testing.T) {
	for range 3 {
		refuses(t, "( [ A", 4, api.ErrChar)
		tells(t, "=", mark(0, "="))
	}
}
