// Package flows: what a flow may be, how much of it may come, and whether flows fit together.
package flows

import (
	"strconv"

	"towpath/api"
	"towpath/fault"
)

const (
	minSize  = 2
	maxTicks = 100000
)

// horizon: flows that have a violation have one at this tick or ahead of it.
//
// From the tick MaxDue + Parts*MaxBurst on, no flow is held by its peak any more, so that in each Parts ticks the sum
// grows by just the sum of the rates. If that is at most Parts, what is no violation in the Parts ticks behind that
// tick is none later on. If it is more, the sum is above (Parts+1)*(t-MaxDue)/Parts (each flow's Size makes good what
// rounding takes), and so it is above t from the tick (Parts+1)*MaxDue on.
const horizon = (api.Parts + 1) * api.MaxDue

// Check tells whether a flow may be: if not, the error is ErrArg, in the field that is wrong.
func Check(f api.Flow) error {
	for _, b := range []struct {
		field              string
		value, least, most int
	}{
		{"Size", f.Size, minSize, api.MTU},
		{"Burst", f.Burst, f.Size, api.MaxBurst},
		{"Rate", f.Rate, 0, api.Parts},
		{"Peak", f.Peak, f.Rate, api.Parts},
		{"Due", f.Due, f.Size, api.MaxDue},
	} {
		if b.value < b.least || b.value > b.most {
			return fault.In(b.field, fault.ErrArg)
		}
	}
	return nil
}

// CheckAll tells whether there may be these flows together, whether they fit or not: if not, the error is ErrArg.
func CheckAll(l []api.Flow) error {
	if len(l) > api.MaxFlows {
		return fault.In(strconv.Itoa(len(l))+" flows", fault.ErrArg)
	}
	for i, f := range l {
		if err := Check(f); err != nil {
			return fault.In("flow "+strconv.Itoa(i), err)
		}
	}
	return nil
}

// Allowed is the document's E: how much of a flow that may be may come in so many ticks.
func Allowed(f api.Flow, ticks int) int {
	if ticks < 0 {
		return 0
	}
	return min(f.Size+f.Peak*ticks/api.Parts, f.Burst+f.Rate*ticks/api.Parts)
}

// Most is Allowed of any flow and any ticks: ErrArg, if the flow may not be or there are too many ticks.
func Most(f api.Flow, ticks int) (int, error) {
	if err := Check(f); err != nil {
		return 0, fault.In("Most", err)
	}
	if ticks > maxTicks {
		return 0, fault.In("Most", fault.In("ticks", fault.ErrArg))
	}
	return Allowed(f, ticks), nil
}

// violates tells whether the tick t is a violation of flows that may be.
func violates(l []api.Flow, t int) bool {
	sum := 0
	for _, f := range l {
		sum += Allowed(f, t-f.Due)
	}
	return sum > 0 && sum+api.MTU-1 > t
}

// Fit tells whether flows that may be fit together: if not, the error is the least Violation.
func Fit(l []api.Flow) error {
	for t := 1; t <= horizon; t++ {
		if violates(l, t) {
			return fault.Violation{At: t}
		}
	}
	return nil
}

// Test tells whether any flows may be and fit together: ErrArg goes ahead of a Violation.
func Test(l []api.Flow) error {
	if err := CheckAll(l); err != nil {
		return fault.In("Test", err)
	}
	return fault.In("Test", Fit(l))
}
