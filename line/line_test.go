package line

import (
	"container/heap"
	"errors"
	"math/rand"
	"slices"
	"testing"

	"towpath/api"
	"towpath/fault"
)

var plain = api.Flow{Size: 4, Peak: 12, Burst: 10, Rate: 3, Due: 40}

func newLine(t *testing.T, l ...api.Flow) *Line {
	t.Helper()
	made, err := New(l)
	if err != nil {
		t.Fatal(err)
	}
	return made
}

func wantErr(t *testing.T, err, reason error, text string) {
	t.Helper()
	if !errors.Is(err, reason) || err.Error() != text {
		t.Errorf("the error is %q, want %q", err, text)
	}
}

func TestErrorsTellReasonAndPlace(t *testing.T) {
	_, err := New([]api.Flow{plain, {Size: 1}})
	wantErr(t, err, fault.ErrArg, "New: flow 1: Size: a number that may not be")
	l := newLine(t, plain, plain)
	wantErr(t, l.Send(2, 1), fault.ErrNone, "Send: flow 2: there is no such flow")
	wantErr(t, l.Send(1, 5), fault.ErrSize, "Send: flow 1: size 5: a packet of a size that may not be")
	wantErr(t, l.Other(9), fault.ErrSize, "Other: size 9: a packet of a size that may not be")
	wantErr(t, l.Run(201), fault.ErrArg, "Run: 201 ticks: a number that may not be")
	for range api.MaxWait {
		if err := errors.Join(l.Send(1, 1), l.Other(1)); err != nil {
			t.Fatal(err)
		}
	}
	wantErr(t, l.Send(1, 1), fault.ErrQuota, "Send: flow 1: 40 wait: as many packets wait as may")
	wantErr(t, l.Other(1), fault.ErrQuota, "Other: 40 wait: as many packets wait as may")
	wantErr(t, l.Teardown(2), fault.ErrNone, "Teardown: flow 2: there is no such flow")
}

func TestErrorsOfSetupTellReasonAndPlace(t *testing.T) {
	late := api.Flow{Size: 8, Peak: 12, Burst: 30, Rate: 12, Due: 8}
	l := newLine(t, plain, plain, plain, plain, plain)
	_, err := l.Setup(api.Flow{Size: 8, Burst: 7})
	wantErr(t, err, fault.ErrArg, "Setup: Burst: a number that may not be")
	_, err = l.Setup(late)
	wantErr(t, err, fault.ErrLate, "Setup: tick 8: something would be late")
	var v fault.Violation
	if !errors.As(err, &v) || v.At != 8 {
		t.Errorf("the violation is %v, want that at 8", v)
	}
	l = newLine(t, plain, plain, plain, plain, plain, plain)
	_, err = l.Setup(late)
	wantErr(t, err, fault.ErrFull, "Setup: 6 flows: there are as many flows as may")
	if errors.Is(err, fault.ErrLate) {
		t.Errorf("%v tells two reasons", err)
	}
}

// A flow that is away is not kept, nor is anything of its packets.
func TestKeepsNoFlowThatIsAway(t *testing.T) {
	l := newLine(t)
	for i := range 2000 {
		number, err := l.Setup(plain)
		if err != nil || number != i {
			t.Fatalf("Setup = %d, %v, want %d", number, err, i)
		}
		for range api.MaxWait {
			_ = l.Send(number, 4)
		}
		if err := errors.Join(l.Run(1), l.Teardown(number), l.Run(8)); err != nil {
			t.Fatal(err)
		}
		l.Gone()
		if room := cap(l.begun) + cap(l.ready) + cap(l.others); len(l.flows) > 0 || room > 8*api.MaxWait {
			t.Fatalf("at the tick %d: %d flows, and there is room for %d", l.now, len(l.flows), room)
		}
	}
}

// What is ready and what is under way is of flows that are there: each packet finds its flow.
func TestReadyPacketsKeepTheirFlow(t *testing.T) {
	r := rand.New(rand.NewSource(2))
	l := newLine(t, plain, plain, plain)
	for range 5000 {
		_, _ = l.Setup(api.Flow{Size: 4, Peak: 12, Burst: 10, Rate: 1, Due: 60 + r.Intn(40)})
		v := l.Look()
		for _, number := range v.Live {
			_ = l.Send(number, 1+r.Intn(4))
		}
		if len(v.Live) > 0 {
			_ = l.Teardown(v.Live[r.Intn(len(v.Live))])
		}
		if err := l.Run(r.Intn(6)); err != nil {
			t.Fatal(err)
		}
		for _, e := range l.ready {
			if l.flows[e.flow] == nil {
				t.Fatalf("at the tick %d there is %v, but no such flow", l.now, e)
			}
		}
		if l.carries() && l.flows[l.begun[len(l.begun)-1].Flow] == nil {
			t.Fatalf("at the tick %d %v is under way, but there is no such flow", l.now, l.begun[len(l.begun)-1])
		}
	}
}

// The order in which packets came into the queue is not to be seen in that in which they go.
func TestQueueGoesByDeadlineFlowAndPlace(t *testing.T) {
	var want []entry
	for deadline := range 4 {
		for flow := range 4 {
			for seq := range 4 {
				want = append(want, entry{packet{flow: flow, seq: seq, size: 1}, deadline})
			}
		}
	}
	r := rand.New(rand.NewSource(1))
	for range 200 {
		var q queue
		for _, i := range r.Perm(len(want)) {
			heap.Push(&q, want[i])
		}
		var got []entry
		for q.Len() > 0 {
			got = append(got, heap.Pop(&q).(entry))
		}
		if !slices.Equal(got, want) {
			t.Fatalf("they go as %v", got)
		}
	}
}

// All that is ready stands in the queue, and nothing else.
func TestQueueHoldsWhatIsReady(t *testing.T) {
	l := newLine(t, api.Flow{Size: 2, Peak: 12, Burst: 2, Rate: 3, Due: 20}, api.Flow{Size: 4, Peak: 0, Burst: 4, Rate: 0, Due: 9})
	for range 3 {
		if err := errors.Join(l.Send(0, 2), l.Send(1, 2)); err != nil {
			t.Fatal(err)
		}
	}
	for l.now = range 24 {
		l.release()
		if want := 2 + 1 + l.now/8; len(l.ready) != want {
			t.Errorf("at the tick %d the queue is %v, want %d packets in it", l.now, l.ready, want)
		}
	}
}

// What has gone and has been told is not kept, nor is what went long ago, however long the line runs.
func TestKeepsNoMoreThanWaits(t *testing.T) {
	l := newLine(t, plain, plain)
	for range 5000 {
		for number := range 2 {
			_ = l.Send(number, 4)
		}
		_ = l.Other(1)
		if err := l.Run(5); err != nil {
			t.Fatal(err)
		}
		l.Gone()
		room := cap(l.begun) + cap(l.ready) + cap(l.others)
		for _, f := range l.flows {
			room += cap(f.held)
		}
		if len(l.begun) > 1 || room > 8*api.MaxWait {
			t.Fatalf("at the tick %d: %d have begun, and there is room for %d", l.now, len(l.begun), room)
		}
	}
}
