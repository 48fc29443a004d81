package fault

import (
	"errors"
	"testing"
)

func TestInKeepsReasonAndPlace(t *testing.T) {
	err := In("Test", In("flow 3", In("Size", ErrArg)))
	if !errors.Is(err, ErrArg) || errors.Is(err, ErrLate) {
		t.Errorf("%v: the reason is lost", err)
	}
	if got, want := err.Error(), "Test: flow 3: Size: a number that may not be"; got != want {
		t.Errorf("the text is %q, want %q", got, want)
	}
	if errors.As(err, new(Violation)) {
		t.Errorf("%v is taken for a violation", err)
	}
}

func TestInOfNoErrorIsNone(t *testing.T) {
	if err := In("Test", nil); err != nil {
		t.Errorf("In of no error = %v", err)
	}
}

func TestViolationTellsItsTick(t *testing.T) {
	err := In("Test", Violation{At: 14})
	if !errors.Is(err, ErrLate) || errors.Is(err, ErrArg) {
		t.Errorf("%v: the reason is lost", err)
	}
	var v Violation
	if !errors.As(err, &v) || v.At != 14 {
		t.Errorf("%v: the tick is %d, want 14", err, v.At)
	}
	if got, want := err.Error(), "Test: tick 14: something would be late"; got != want {
		t.Errorf("the text is %q, want %q", got, want)
	}
}
