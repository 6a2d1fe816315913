// Package below makes errors of the numbers that the calls of a lower layer tell, so that the layer above may wrap them, hand them on, and ask for one by errors.Is.
package below

import (
	"errors"

	"dredger/api"
)

// failure is a number, and the call that told it.
type failure struct {
	call string
	why  api.Errno
}

// Error is words for whoever reads them; the number is found by errors.Is.
func (f failure) Error() string { return f.call + ": " + f.why.Error() }

// Unwrap is the number.
func (f failure) Unwrap() error { return f.why }

// Wrap is an error of what a call told: nil of OK, which as a bare number would be an error that is not nil.
func Wrap(call string, why api.Errno) error {
	if why == api.OK {
		return nil
	}
	return failure{call, why}
}

// Number is the number in an error, as the faces answer it; OK, if there is none.
func Number(err error) api.Errno {
	why := api.OK
	errors.As(err, &why)
	return why
}
