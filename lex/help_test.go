package lex_test

import (
	"errors"
	"slices"
	"testing"

	"dredger/api"
	"dredger/lex"
)

// numbers is a source of the same numbers each time.
type numbers uint64

func (n *numbers) next(below int) int {
	*n = *n*6364136223846793005 + 1442695040888963407
	return int(uint64(*n)>>33) % below
}

// pick is one of a list.
func pick[T any](n *numbers, list ...T) T { return list[n.next(len(list))] }

// scan asks for the tokens of a text that has no fault.
func scan(t *testing.T, s string) []api.Token {
	t.Helper()
	l, e := lex.Scan(s)
	if e != nil {
		t.Fatalf("%q: %v", s, e)
	}
	return l
}

// tells asks for a text's tokens.
func tells(t *testing.T, s string, want ...api.Token) {
	t.Helper()
	if l, e := lex.Scan(s); e != nil || !slices.Equal(l, want) {
		t.Errorf("%q: %+v, %v, want %+v", s, l, e, want)
	}
}

// refuses asks for a text's fault: a value, with that place, in which errors.Is finds that number alone.
func refuses(t *testing.T, s string, at int, why api.Errno) {
	t.Helper()
	l, e := lex.Scan(s)
	if f, ok := e.(api.Fault); !ok || f != (api.Fault{At: at, Why: why}) || len(l) != 0 {
		t.Errorf("%q: %+v, %v, want %v at %d", s, l, e, why, at)
		return
	}
	var f api.Fault
	if !errors.As(e, &f) || f.At != at {
		t.Errorf("%q: errors.As finds %v", s, f)
	}
	for n := range api.Errno(240) {
		if errors.Is(e, n) != (n == why) {
			t.Errorf("%q: errors.Is of %v is %v", s, n, errors.Is(e, n))
		}
	}
}

func name(at int, text string) api.Token { return api.Token{Kind: api.TokName, At: at, Text: text} }

func mark(at int, text string) api.Token { return api.Token{Kind: api.TokMark, At: at, Text: text} }

func quoted(at int, text string) api.Token { return api.Token{Kind: api.TokText, At: at, Text: text} }

func line(at int) api.Token { return api.Token{Kind: api.TokLine, At: at, Text: "\n"} }

func number(at int, text string, n int) api.Token {
	return api.Token{Kind: api.TokNumber, At: at, Text: text, Number: n}
}
