package flows

import (
	"errors"
	"math/rand"
	"slices"
	"strings"
	"testing"

	"towpath/api"
	"towpath/fault"
)

// anyFlow makes a flow that may be; half of them have a late Due, so that flows together fit often enough.
func anyFlow(r *rand.Rand) api.Flow {
	f := api.Flow{Size: 2 + r.Intn(api.MTU-1)}
	f.Burst = f.Size + r.Intn(api.MaxBurst-f.Size+1)
	f.Rate = r.Intn(api.Parts + 1)
	if r.Intn(2) == 0 {
		f.Rate /= 4
	}
	f.Peak = f.Rate + r.Intn(api.Parts-f.Rate+1)
	f.Due = f.Size + r.Intn(api.MaxDue-f.Size+1)
	if r.Intn(2) == 0 {
		f.Due = api.MaxDue - r.Intn(20)
	}
	return f
}

func anyFlows(r *rand.Rand) []api.Flow {
	l := make([]api.Flow, r.Intn(api.MaxFlows+1))
	for i := range l {
		l[i] = anyFlow(r)
	}
	return l
}

func TestCheckTellsTheField(t *testing.T) {
	for field, f := range map[string]api.Flow{
		"Size":  {Size: 9, Peak: 3, Burst: 10, Rate: 2, Due: 20},
		"Burst": {Size: 4, Peak: 3, Burst: 3, Rate: 2, Due: 20},
		"Rate":  {Size: 4, Peak: 3, Burst: 10, Rate: -1, Due: 20},
		"Peak":  {Size: 4, Peak: 1, Burst: 10, Rate: 2, Due: 20},
		"Due":   {Size: 4, Peak: 3, Burst: 10, Rate: 2, Due: 3},
	} {
		good := api.Flow{Size: 4, Peak: 3, Burst: 10, Rate: 2, Due: 20}
		err := Test([]api.Flow{good, good, f})
		if !errors.Is(err, fault.ErrArg) || !strings.Contains(err.Error(), "flow 2: "+field+": ") {
			t.Errorf("P4: Test with %v in its third place = %v", f, err)
		}
		if _, err = Most(f, 1); !errors.Is(err, fault.ErrArg) || !strings.Contains(err.Error(), field+": ") {
			t.Errorf("P3: Most(%v) = %v", f, err)
		}
	}
}

func TestCheckAllTakesFlowsThatDoNotFit(t *testing.T) {
	f := api.Flow{Size: 8, Peak: 12, Burst: 30, Rate: 12, Due: 8}
	l := slices.Repeat([]api.Flow{f}, api.MaxFlows)
	if err := CheckAll(l); err != nil {
		t.Errorf("CheckAll of flows that may be = %v", err)
	}
	if err := CheckAll(append(l, f)); !errors.Is(err, fault.ErrArg) {
		t.Errorf("CheckAll of a flow too many = %v", err)
	}
}

// P11: E does not fall, and grows by at most what the peak lets.
func TestAllowedGrowsAsThePeakLets(t *testing.T) {
	r := rand.New(rand.NewSource(1))
	for range 2000 {
		f := anyFlow(r)
		for from := -2; from < 120; from++ {
			for ticks := range 30 {
				more := Allowed(f, from+ticks) - Allowed(f, from)
				if more < 0 || more > f.Size+(f.Peak*ticks+api.Parts-1)/api.Parts {
					t.Fatalf("P11: Allowed(%v) grows by %d from %d on in %d ticks", f, more, from, ticks)
				}
			}
		}
	}
}

// P11: flows that fit still fit when one of them is taken away, or a Due is made greater.
func TestFitStaysWithLess(t *testing.T) {
	r := rand.New(rand.NewSource(2))
	fit := 0
	for range 2000 {
		l := anyFlows(r)
		if Fit(l) != nil {
			continue
		}
		fit++
		for i, f := range l {
			if err := Fit(slices.Delete(slices.Clone(l), i, i+1)); err != nil {
				t.Fatalf("P11: %v fit, but without the flow %d: %v", l, i, err)
			}
			if f.Due == api.MaxDue {
				continue
			}
			later := slices.Clone(l)
			later[i].Due++
			if err := Fit(later); err != nil {
				t.Fatalf("P11: %v fit, but with a greater Due of the flow %d: %v", l, i, err)
			}
		}
	}
	if fit < 200 {
		t.Fatalf("only %d lists fit: this shows too little", fit)
	}
}

// The horizon is a claim about all flows: far beyond it there must be nothing either.
func TestNothingBeyondTheHorizon(t *testing.T) {
	r := rand.New(rand.NewSource(3))
	for range 3000 {
		l := anyFlows(r)
		if Fit(l) != nil {
			continue
		}
		for at := horizon + 1; at <= 5*horizon; at++ {
			if violates(l, at) {
				t.Fatalf("P4: %v are said to fit, but there is a violation at %d", l, at)
			}
		}
	}
}

// The slowest to go wrong are those whose rates are above the line's by one part, with nothing else to press.
func TestRatesAboveTheLineNeverFit(t *testing.T) {
	for a := 1; a <= api.Parts; a++ {
		for b := api.Parts + 1 - a; b <= api.Parts; b++ {
			for due := api.MaxDue - api.Parts; due <= api.MaxDue; due++ {
				l := []api.Flow{{Size: 2, Peak: a, Burst: 2, Rate: a, Due: api.MaxDue}, {Size: 2, Peak: b, Burst: 2, Rate: b, Due: due}}
				if Fit(l) == nil {
					t.Fatalf("P4: %v are said to fit", l)
				}
			}
		}
	}
}
