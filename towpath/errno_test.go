package towpath

import (
	"errors"
	"testing"

	"towpath/api"
	"towpath/fault"
)

func TestErrnoFindsTheReasonWithin(t *testing.T) {
	for _, c := range []struct {
		err  error
		want api.Errno
		at   int
	}{
		{nil, api.OK, 0},
		{fault.ErrArg, api.ErrArg, 0},
		{fault.In("a", fault.In("b", fault.ErrArg)), api.ErrArg, 0},
		{fault.In("a", fault.ErrFull), api.ErrFull, 0},
		{fault.In("a", fault.ErrNone), api.ErrNone, 0},
		{fault.In("a", fault.ErrSize), api.ErrSize, 0},
		{fault.In("a", fault.ErrQuota), api.ErrQuota, 0},
		{fault.Violation{At: 7}, api.ErrLate, 7},
		{fault.In("a", fault.In("b", fault.Violation{At: 7})), api.ErrLate, 7},
		{errors.Join(fault.Violation{At: 7}), api.ErrLate, 7},
	} {
		if e, at := errno(c.err), violation(c.err); e != c.want || at != c.at {
			t.Errorf("of %v: errno %d, violation %d, want %d, %d", c.err, e, at, c.want, c.at)
		}
	}
}
