// Package fault: what goes wrong inside, as errors that keep where it was.
package fault

import (
	"errors"
	"strconv"
)

// The reasons, to be asked for with errors.Is.
var (
	ErrArg   = errors.New("a number that may not be")
	ErrFull  = errors.New("there are as many flows as may")
	ErrLate  = errors.New("something would be late")
	ErrNone  = errors.New("there is no such flow")
	ErrSize  = errors.New("a packet of a size that may not be")
	ErrQuota = errors.New("as many packets wait as may")
)

// Violation is ErrLate with the tick by which it would be so, to be asked for with errors.As.
type Violation struct {
	At int
}

func (v Violation) Error() string { return "tick " + strconv.Itoa(v.At) + ": " + ErrLate.Error() }

func (v Violation) Unwrap() error { return ErrLate }

// place is an error with where it was.
type place struct {
	where string
	err   error
}

func (p place) Error() string { return p.where + ": " + p.err.Error() }

func (p place) Unwrap() error { return p.err }

// In wraps an error with where it was. No error stays none, so that a caller may wrap what it was told unasked.
func In(where string, err error) error {
	if err == nil {
		return nil
	}
	return place{where, err}
}
