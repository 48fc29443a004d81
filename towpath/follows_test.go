package towpath_test

import (
	"math/rand"
	"slices"
	"testing"

	"towpath/api"
	"towpath/towpath"
)

// isLate tells whether a packet has ended later than its deadline, of flows by their numbers.
func isLate(flows []api.Flow, p api.Gone) bool {
	return p.Flow >= 0 && p.Done > p.Ready+flows[p.Flow].Due
}

// P11: flows that fit are not late, whatever is sent.
func TestFlowsThatFitAreNotLate(t *testing.T) {
	r := rand.New(rand.NewSource(9))
	gone := 0
	for range 1500 {
		l := anyFlows(r)
		if at, _ := towpath.Test(l); at > 0 {
			continue
		}
		x := newLine(t, l...)
		for range 60 {
			for flow := range l {
				for range r.Intn(6) {
					x.Send(flow, 1+r.Intn(l[flow].Size))
				}
			}
			x.Other(1 + r.Intn(8))
			run(t, x, r.Intn(20))
			for _, p := range x.Gone() {
				if p.Flow >= 0 {
					gone++
				}
				if isLate(l, p) {
					t.Fatalf("P11: of %v, that fit, %+v is late", l, p)
				}
			}
		}
	}
	if gone < 20000 {
		t.Fatalf("%d have gone: this shows too little", gone)
	}
}

// P11: flows that do not fit can be made late.
func TestFlowsThatDoNotFitAreLate(t *testing.T) {
	r := rand.New(rand.NewSource(10))
	shown := 0
	for range 2000 {
		l := anyFlows(r)
		at, _ := towpath.Test(l)
		many := slices.ContainsFunc(l, func(f api.Flow) bool { return mayCome(f, at-f.Due) > 40 })
		if at == 0 || many {
			continue
		}
		shown++
		x := newLine(t, l...)
		other(t, x, 8)
		run(t, x, 1)
		for flow, f := range l {
			send(t, x, flow, slices.Repeat([]int{1}, mayCome(f, at-f.Due))...)
		}
		run(t, x, 200)
		run(t, x, 200)
		if !slices.ContainsFunc(x.Gone(), func(p api.Gone) bool { return isLate(l, p) }) {
			t.Fatalf("P11: of %v nothing is late, though %d is a violation", l, at)
		}
	}
	if shown < 100 {
		t.Fatalf("%d do not fit: this shows too little", shown)
	}
}

// setupTight sets up a flow with the least Due with which the line takes it, and tells whether there is one.
func setupTight(x *towpath.Line, f api.Flow) (api.Flow, bool) {
	for f.Due = f.Size; f.Due <= api.MaxDue; f.Due++ {
		if _, _, e := x.Setup(f); e != api.ErrLate {
			return f, e == api.OK
		}
	}
	return f, false
}

// busyDays has flows come and go on a line, all of which send more than they may, and is all flows that ever were there
// and all packets that have gone.
func busyDays(t *testing.T, r *rand.Rand, x *towpath.Line, flows []api.Flow) ([]api.Flow, []api.Gone) {
	t.Helper()
	var gone []api.Gone
	for range 120 {
		if f, taken := setupTight(x, anyFlow(r)); taken && r.Intn(3) > 0 {
			flows = append(flows, f)
		} else if taken {
			flows = append(flows, f)
			teardown(t, x, len(flows)-1)
		}
		x.Other(8 - r.Intn(2)*r.Intn(8))
		run(t, x, r.Intn(3))
		v := x.Look()
		for _, flow := range v.Live {
			for range r.Intn(5) {
				x.Send(flow, flows[flow].Size-r.Intn(2)*r.Intn(flows[flow].Size))
			}
		}
		if len(v.Live) > 0 && r.Intn(3) == 0 {
			teardown(t, x, v.Live[r.Intn(len(v.Live))])
		}
		run(t, x, r.Intn(1+r.Intn(20)))
		gone = append(gone, x.Gone()...)
	}
	run(t, x, 200)
	return flows, append(gone, x.Gone()...)
}

// P11: if a line's flows at New fit, nothing is late, whatever flows are set up and torn down, however little room there is.
func TestNothingIsLateThoughFlowsComeAndGo(t *testing.T) {
	r := rand.New(rand.NewSource(13))
	all, near := 0, 0
	for range 150 {
		l := anyFlows(r)
		if at, _ := towpath.Test(l); at > 0 {
			l = nil
		}
		flows, gone := busyDays(t, r, newLine(t, l...), l)
		for _, p := range gone {
			if isLate(flows, p) {
				t.Fatalf("P11: of %v %+v is late", flows, p)
			}
			if p.Flow >= 0 {
				all++
				near += max(0, p.Done+3-p.Ready-flows[p.Flow].Due)
			}
		}
	}
	if all < 8000 || near < 100 {
		t.Fatalf("%d have gone, and %d ticks were wanting to be late: this shows too little", all, near)
	}
}

// P11: what is to be seen of all packets that have gone, whether flows fit or not.
func TestPacketsGoInOrder(t *testing.T) {
	r := rand.New(rand.NewSource(14))
	for range 60 {
		l := anyFlows(r)
		flows, gone := busyDays(t, r, newLine(t, l...), l)
		for number := -1; number < len(flows); number++ {
			of := slices.DeleteFunc(slices.Clone(gone), func(p api.Gone) bool { return p.Flow != number })
			wantInOrder(t, of)
			if number >= 0 {
				wantAsAllowed(t, flows[number], of)
			}
		}
		wantNoNeedlessRest(t, gone)
		if t.Failed() {
			t.Fatalf("of the flows %v", flows)
		}
	}
}

// wantInOrder: those of one flow, or of none.
func wantInOrder(t *testing.T, of []api.Gone) {
	t.Helper()
	for i, p := range of {
		if p.Seq != i || p.Start < p.Ready || p.Done != p.Start+p.Size {
			t.Errorf("P11: the packet %d is %+v", i, p)
		}
		if i > 0 && (p.Start < of[i-1].Done || p.Ready < of[i-1].Ready) {
			t.Errorf("P11: %+v goes behind %+v", p, of[i-1])
		}
	}
}

func wantAsAllowed(t *testing.T, f api.Flow, of []api.Gone) {
	t.Helper()
	for i := range of {
		sum := 0
		for _, p := range of[i:] {
			sum += p.Size
			if may := mayCome(f, p.Ready-of[i].Ready); sum > may {
				t.Errorf("P11: of %v %d are ready from %+v to %+v, but %d may be", f, sum, of[i], p, may)
			}
		}
	}
}

// wantNoNeedlessRest: of all that have gone, in their order. What begins later on might not have gone while the line was
// idle, nor, if it is of a flow, when one of none began.
func wantNoNeedlessRest(t *testing.T, gone []api.Gone) {
	t.Helper()
	free := 0
	for i, p := range gone {
		for _, later := range gone[i:] {
			if free < p.Start && later.Ready < p.Start {
				t.Errorf("P11: the line is idle from %d to %d, though there is %+v", free, p.Start, later)
			}
			if p.Flow < 0 && later.Flow >= 0 && later.Ready <= p.Start {
				t.Errorf("P11: %+v goes, though there is %+v", p, later)
			}
		}
		free = p.Done
	}
}
