package below_test

import (
	"errors"
	"testing"

	"dredger/api"
	"dredger/below"
)

func TestWrap(t *testing.T) {
	if err := below.Wrap("a call", api.OK); err != nil || below.Number(err) != api.OK {
		t.Error("OK is an error:", err)
	}
	for _, why := range []api.Errno{api.ErrArg, api.ErrNil, api.ErrFull, api.ErrLong} {
		err := below.Wrap("a call", why)
		if !errors.Is(err, why) || errors.Is(err, api.OK) || errors.Is(err, api.ErrGone) || below.Number(err) != why {
			t.Errorf("%v is wrapped as %v", why, err)
		}
		if again := (outer{err}); below.Number(again) != why {
			t.Errorf("%v, wrapped once more, is %v", why, below.Number(again))
		}
	}
	if n := below.Number(errors.New("another one")); n != api.OK {
		t.Error("an error without a number:", n)
	}
}

// outer is an error that has another one within.
type outer struct{ inner error }

func (o outer) Error() string { return "outer: " + o.inner.Error() }
func (o outer) Unwrap() error { return o.inner }
