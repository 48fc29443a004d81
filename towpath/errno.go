package towpath

import (
	"errors"

	"towpath/api"
	"towpath/fault"
)

// errno is the number of what went wrong inside. Every reason is asked for by its name: none is told for another one.
func errno(err error) api.Errno {
	switch {
	case errors.Is(err, fault.ErrArg):
		return api.ErrArg
	case errors.Is(err, fault.ErrFull):
		return api.ErrFull
	case errors.Is(err, fault.ErrLate):
		return api.ErrLate
	case errors.Is(err, fault.ErrNone):
		return api.ErrNone
	case errors.Is(err, fault.ErrSize):
		return api.ErrSize
	case errors.Is(err, fault.ErrQuota):
		return api.ErrQuota
	}
	return api.OK
}

// violation is the tick by which something would be late, 0 if that is not what went wrong.
func violation(err error) int {
	var v fault.Violation
	if errors.As(err, &v) {
		return v.At
	}
	return 0
}
