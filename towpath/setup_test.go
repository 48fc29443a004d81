package towpath_test

import (
	"math"
	"math/rand"
	"slices"
	"testing"

	"towpath/api"
	"towpath/towpath"
)

var (
	// tight fits alone, and not with another one like it.
	tight = api.Flow{Size: 8, Peak: 12, Burst: 8, Rate: 0, Due: 15}
	// small fits with five others like it, and with tight.
	small = api.Flow{Size: 2, Peak: 0, Burst: 2, Rate: 0, Due: 100}
	// sparse lets one of its packets be ready at once, and one more of them each 24 ticks.
	sparse = api.Flow{Size: 2, Peak: 12, Burst: 2, Rate: 1, Due: 50}
)

func wantSetup(t *testing.T, x *towpath.Line, f api.Flow, number, at int, wantErr api.Errno) {
	t.Helper()
	if n, by, e := x.Setup(f); n != number || by != at || e != wantErr {
		t.Errorf("P9: Setup(%v) = %d, %d, %d, want %d, %d, %d", f, n, by, e, number, at, wantErr)
	}
}

func teardown(t *testing.T, x *towpath.Line, flows ...int) {
	t.Helper()
	for _, flow := range flows {
		wantErrno(t, "P10: Teardown", x.Teardown(flow), api.OK)
	}
}

// wantFlows: the flows that live, those that linger, and how many packets of them wait.
func wantFlows(t *testing.T, x *towpath.Line, live, stays []int, waiting int) {
	t.Helper()
	if v := x.Look(); !slices.Equal(v.Live, live) || !slices.Equal(v.Stays, stays) || v.Waiting != waiting {
		t.Errorf("P8: Look() = %+v, want the flows %v, %v, and %d packets", v, live, stays, waiting)
	}
}

// A number is one more than any that ever was there, whatever has become of those; what is refused takes none.
func TestSetupNumbers(t *testing.T) {
	x := newLine(t)
	wantSetup(t, x, small, 0, 0, api.OK)
	teardown(t, x, 0)
	wantSetup(t, x, small, 1, 0, api.OK)
	wantSetup(t, x, api.Flow{}, 0, 0, api.ErrArg)
	wantSetup(t, x, tight, 2, 0, api.OK)
	wantSetup(t, x, tight, 0, 15, api.ErrLate)
	wantSetup(t, x, small, 3, 0, api.OK)
	teardown(t, x, 3, 2, 1)
	wantSetup(t, x, small, 4, 0, api.OK)
	wantFlows(t, x, []int{4}, nil, 0)
	for i := 5; i < 300; i++ {
		teardown(t, x, i-1)
		wantSetup(t, x, small, i, 0, api.OK)
	}
	wantFlows(t, x, []int{299}, nil, 0)

	y := newLine(t, small, small, small)
	teardown(t, y, 0, 1)
	wantSetup(t, y, small, 3, 0, api.OK)
	teardown(t, y, 2, 3)
	wantSetup(t, y, small, 4, 0, api.OK)
	wantFlows(t, y, []int{4}, nil, 0)
}

func TestSetupWhenFull(t *testing.T) {
	x := newLine(t, slices.Repeat([]api.Flow{small}, api.MaxFlows)...)
	wantSetup(t, x, small, 0, 0, api.ErrFull)
	send(t, x, 5, 1)
	teardown(t, x, 5)
	wantFlows(t, x, []int{0, 1, 2, 3, 4}, []int{5}, 1)
	wantSetup(t, x, small, 0, 0, api.ErrFull) // it lingers
	run(t, x, 1)
	wantSetup(t, x, small, 0, 0, api.ErrFull)
	run(t, x, 1)
	wantSetup(t, x, small, 6, 0, api.OK)
	wantSetup(t, x, small, 0, 0, api.ErrFull)
	wantFlows(t, x, []int{0, 1, 2, 3, 4, 6}, nil, 0)

	y := newLine(t, slices.Repeat([]api.Flow{small}, api.MaxFlows-1)...)
	wantSetup(t, y, small, 5, 0, api.OK)
	wantSetup(t, y, small, 0, 0, api.ErrFull)
}

// P1: of several errors the one named first; then every number is 0 but the violation, and nothing has changed.
func TestSetupOrderOfErrors(t *testing.T) {
	late := api.Flow{Size: 8, Peak: 12, Burst: 30, Rate: 12, Due: 8}
	wrong := late
	wrong.Size = 9
	x := newLine(t, slices.Repeat([]api.Flow{late}, api.MaxFlows)...)
	before := x.Look()
	wantSetup(t, x, wrong, 0, 0, api.ErrArg)
	wantSetup(t, x, late, 0, 0, api.ErrFull)
	wantSetup(t, x, small, 0, 0, api.ErrFull)
	wantLook(t, x, before)
	teardown(t, x, 5)
	wantSetup(t, x, wrong, 0, 0, api.ErrArg)
	wantSetup(t, x, late, 0, 8, api.ErrLate)
	wantSetup(t, x, small, 0, 8, api.ErrLate) // those of New do not fit, whatever comes
	before.Live = before.Live[:5]
	wantLook(t, x, before)
	teardown(t, x, 0, 1, 2, 3, 4)
	wantSetup(t, x, small, 6, 0, api.OK)
}

// The violation is of all flows together, and the least one.
func TestSetupTellsTheLeastViolation(t *testing.T) {
	first := api.Flow{Size: 2, Peak: 12, Burst: 10, Rate: 12, Due: 9}
	second := api.Flow{Size: 3, Peak: 1, Burst: 5, Rate: 0, Due: 30}
	for _, pair := range [][2]api.Flow{{first, second}, {second, first}} {
		x := newLine(t)
		wantSetup(t, x, pair[0], 0, 0, api.OK)
		wantSetup(t, x, pair[1], 0, 30, api.ErrLate)
		teardown(t, x, 0)
		wantSetup(t, x, pair[1], 1, 0, api.OK)
		wantSetup(t, newLine(t, pair[0]), pair[1], 0, 30, api.ErrLate)
	}
	two := []api.Flow{{Size: 8, Peak: 0, Burst: 8, Rate: 0, Due: 15}, {Size: 8, Peak: 0, Burst: 8, Rate: 0, Due: 22}}
	wantSetup(t, newLine(t, two[0]), two[1], 0, 22, api.ErrLate)
	two[1].Due = 23
	wantSetup(t, newLine(t, two[0]), two[1], 1, 0, api.OK)
	wantSetup(t, newLine(t), api.Flow{Size: 8, Peak: 12, Burst: 8, Rate: 0, Due: 14}, 0, 14, api.ErrLate)
}

// A flow that was refused is not there: it takes no packet, and no other flow has less room.
func TestSetupRefusedLeavesNothing(t *testing.T) {
	x := newLine(t, tight)
	for range 20 {
		wantSetup(t, x, tight, 0, 15, api.ErrLate)
		wantSetup(t, x, api.Flow{Size: math.MinInt, Peak: math.MaxInt, Burst: math.MaxInt, Rate: math.MinInt, Due: math.MaxInt}, 0, 0, api.ErrArg)
	}
	wantErrno(t, "P6: Send of a flow that was refused", x.Send(1, 1), api.ErrNone)
	wantErrno(t, "P10: Teardown of a flow that was refused", x.Teardown(1), api.ErrNone)
	for i := range 5 {
		wantSetup(t, x, small, i+1, 0, api.OK)
	}
	wantLook(t, x, api.View{Live: []int{0, 1, 2, 3, 4, 5}})
}

// A flow that comes late may send as much as one of New, and is held back as that is.
func TestSetupBeginsAnew(t *testing.T) {
	x := newLine(t, small)
	run(t, x, 50)
	wantSetup(t, x, sparse, 1, 0, api.OK)
	send(t, x, 1, 2, 1, 1)
	wantErrno(t, "P6: Send above the Size", x.Send(1, 3), api.ErrSize)
	run(t, x, 30)
	wantGone(t, x,
		api.Gone{Flow: 1, Size: 2, Ready: 50, Start: 50, Done: 52},
		api.Gone{Flow: 1, Seq: 1, Size: 1, Ready: 62, Start: 62, Done: 63},
		api.Gone{Flow: 1, Seq: 2, Size: 1, Ready: 74, Start: 74, Done: 75})
	teardown(t, x, 1)
	wantSetup(t, x, sparse, 2, 0, api.OK) // it knows nothing of the one that was
	send(t, x, 2, 2)
	run(t, x, 2)
	wantGone(t, x, api.Gone{Flow: 2, Size: 2, Ready: 80, Start: 80, Done: 82})
}

// P1, P10: of a number under which no flow lives, at all numbers, and then nothing has changed.
func TestTeardownOfNone(t *testing.T) {
	x := newLine(t, open, open, open)
	teardown(t, x, 1) // away
	send(t, x, 2, 4)
	teardown(t, x, 2) // lingers
	send(t, x, 0, 1)
	before := x.Look()
	for _, flow := range []int{math.MinInt, math.MinInt32, -2, -1, 1, 2, 3, 4, 1 << 32, math.MaxInt} {
		wantErrno(t, "P10: Teardown", x.Teardown(flow), api.ErrNone)
	}
	wantLook(t, x, before)
	wantErrno(t, "P10: Teardown", newLine(t).Teardown(0), api.ErrNone)
	wantErrno(t, "P10: Teardown", newLine(t).Teardown(-1), api.ErrNone)
}

// P6: no packet comes of a flow that lingers or is away, and ErrNone goes ahead of the other errors.
func TestSendOfAFlowThatWas(t *testing.T) {
	x := newLine(t, open, open)
	for range api.MaxWait {
		send(t, x, 0, 8)
	}
	teardown(t, x, 0)
	wantFlows(t, x, []int{1}, []int{0}, 1)
	for _, size := range []int{math.MinInt, 0, 1, 8, 9} {
		wantErrno(t, "P6: Send of a flow that lingers", x.Send(0, size), api.ErrNone)
	}
	run(t, x, 9)
	wantFlows(t, x, []int{1}, nil, 0)
	for _, size := range []int{math.MinInt, 0, 1, 8, 9} {
		wantErrno(t, "P6: Send of a flow that is away", x.Send(0, size), api.ErrNone)
	}
	wantGone(t, x, api.Gone{Size: 8, Done: 8})
	send(t, x, 1, 8)
}

// What is ready at this tick stays and goes, what is not is dropped, and of other flows nothing is.
func TestTeardownDropsWhatIsNotReady(t *testing.T) {
	x := newLine(t, sparse, sparse)
	for flow := range 2 {
		send(t, x, flow, 1, 1, 1, 1) // ready at 0, 0, 12, 24
	}
	teardown(t, x, 0)
	wantFlows(t, x, []int{1}, []int{0}, 6)
	run(t, x, 12)
	wantFlows(t, x, []int{1}, nil, 2)
	teardown(t, x, 1) // at the tick at which the third one is ready, ahead of any Run that goes on from there
	wantFlows(t, x, nil, []int{1}, 1)
	run(t, x, 30)
	wantFlows(t, x, nil, nil, 0)
	wantGone(t, x,
		api.Gone{Flow: 0, Size: 1, Done: 1},
		api.Gone{Flow: 0, Seq: 1, Size: 1, Start: 1, Done: 2},
		api.Gone{Flow: 1, Size: 1, Start: 2, Done: 3},
		api.Gone{Flow: 1, Seq: 1, Size: 1, Start: 3, Done: 4},
		api.Gone{Flow: 1, Seq: 2, Size: 1, Ready: 12, Start: 12, Done: 13})
}

// One tick ahead of being ready, or if it never is, a packet is dropped.
func TestTeardownAtTheEdgeOfReady(t *testing.T) {
	for _, c := range []struct{ at, waiting, goes int }{
		{0, 1, 1},  // the first one is ready
		{1, 0, 1},  // it is under way
		{2, 0, 0},  // it has gone
		{23, 0, 0}, // the second one is not ready yet
		{24, 1, 1}, // it is ready
		{25, 0, 1}, // it is under way
	} {
		x := newLine(t, sparse)
		send(t, x, 0, 2, 2)
		run(t, x, c.at)
		x.Gone()
		teardown(t, x, 0)
		if v := x.Look(); v.Waiting != c.waiting {
			t.Errorf("P10: torn down at the tick %d, there are %d packets, want %d", c.at, v.Waiting, c.waiting)
		}
		run(t, x, 60)
		if n := len(x.Gone()); n != c.goes {
			t.Errorf("P10: torn down at the tick %d, %d packets go, want %d", c.at, n, c.goes)
		}
	}
	x := newLine(t, small)
	send(t, x, 0, 1, 2, 1) // the second one is never ready
	run(t, x, 3)
	wantFlows(t, x, []int{0}, nil, 2)
	teardown(t, x, 0)
	wantFlows(t, x, nil, nil, 0)
	run(t, x, 200)
	wantGone(t, x, api.Gone{Size: 1, Done: 1})
}

// What is under way goes on when its flow is torn down.
func TestTeardownOfWhatIsUnderWay(t *testing.T) {
	x := newLine(t, open)
	send(t, x, 0, 8)
	run(t, x, 1)
	teardown(t, x, 0)
	wantLook(t, x, api.View{Now: 1, Stays: []int{0}, Busy: true})
	wantGone(t, x)
	run(t, x, 7)
	wantGone(t, x, api.Gone{Size: 8, Done: 8})
	wantLook(t, x, api.View{Now: 8, Stays: []int{0}})
	run(t, x, 0)
	wantLook(t, x, api.View{Now: 8, Stays: []int{0}})
	run(t, x, 1)
	wantLook(t, x, api.View{Now: 9})
}

// A flow lingers for the packets of all flows, those that live too; not for those that are held back, nor for those of none.
func TestLingersForAnyFlow(t *testing.T) {
	x := newLine(t, open, sparse)
	run(t, x, 5)
	send(t, x, 1, 2, 2) // the second one is ready at 29
	other(t, x, 8, 8, 8)
	teardown(t, x, 0)
	wantFlows(t, x, []int{1}, []int{0}, 2) // one of the flow 1 is ready
	run(t, x, 1)
	wantFlows(t, x, []int{1}, []int{0}, 1) // and is under way
	run(t, x, 1)
	wantFlows(t, x, []int{1}, []int{0}, 1)
	run(t, x, 1)
	wantFlows(t, x, []int{1}, nil, 1) // one of none has begun, one of the flow 1 is held back
	wantLook(t, x, api.View{Now: 8, Live: []int{1}, Waiting: 1, Others: 2, Busy: true})
	teardown(t, x, 1) // all that is there is of none
	wantLook(t, x, api.View{Now: 8, Others: 2, Busy: true})
}

// While one of none is under way, what is ready of a flow keeps those that linger.
func TestLingersBehindAPacketOfNone(t *testing.T) {
	x := newLine(t, open, open)
	other(t, x, 8)
	run(t, x, 1)
	send(t, x, 0, 1)
	teardown(t, x, 1)
	wantFlows(t, x, []int{0}, []int{1}, 1)
	run(t, x, 7)
	wantFlows(t, x, []int{0}, []int{1}, 1)
	run(t, x, 1)
	wantFlows(t, x, []int{0}, []int{1}, 0)
	run(t, x, 1)
	wantFlows(t, x, []int{0}, nil, 0)
}

// Whether those that linger are away is looked at behind a tearing down, and at each tick that Run goes through; not at
// that at which it ends, and by no other call.
func TestWhenItIsLookedAt(t *testing.T) {
	done := func() *towpath.Line {
		x := newLine(t, open, open, small)
		send(t, x, 0, 4)
		teardown(t, x, 0)
		run(t, x, 4)
		wantFlows(t, x, []int{1, 2}, []int{0}, 0)
		return x
	}
	x := done()
	x.Gone()
	run(t, x, 0)
	other(t, x, 3)
	wantErrno(t, "P10: Teardown of none", x.Teardown(7), api.ErrNone)
	wantErrno(t, "P10: Teardown of one that lingers", x.Teardown(0), api.ErrNone)
	wantErrno(t, "P7: Run", x.Run(-1), api.ErrArg)
	wantSetup(t, x, api.Flow{}, 0, 0, api.ErrArg)
	wantFlows(t, x, []int{1, 2}, []int{0}, 0)
	teardown(t, x, 2)
	wantFlows(t, x, []int{1}, nil, 0)

	x = done()
	run(t, x, 1)
	wantFlows(t, x, []int{1, 2}, nil, 0)

	x = done()
	send(t, x, 1, 5) // ready at this tick: nothing has come to rest
	teardown(t, x, 2)
	wantFlows(t, x, []int{1}, []int{0, 2}, 1)
	run(t, x, 5)
	wantFlows(t, x, []int{1}, []int{0, 2}, 0)
	run(t, x, 1)
	wantFlows(t, x, []int{1}, nil, 0)
}

// At a tick at which one packet has ended and another one gets ready, nothing has come to rest either.
func TestLingersWhenPacketsMeet(t *testing.T) {
	x := newLine(t, sparse, open)
	send(t, x, 0, 2, 2) // ready at 0 and at 24
	run(t, x, 16)
	send(t, x, 1, 8)
	teardown(t, x, 1)
	run(t, x, 10)
	wantFlows(t, x, []int{0}, []int{1}, 0)
	run(t, x, 1)
	wantFlows(t, x, []int{0}, nil, 0)
	y := newLine(t, sparse, open)
	send(t, y, 0, 2, 2)
	run(t, y, 16)
	send(t, y, 1, 7)
	teardown(t, y, 1)
	run(t, y, 24-16)
	wantFlows(t, y, []int{0}, nil, 1)
}

// One that lingers takes room, of which nothing may be given away: what is under way of it would make others late.
func TestWhatLingersTakesRoom(t *testing.T) {
	x := newLine(t)
	wantSetup(t, x, tight, 0, 0, api.OK)
	other(t, x, 8)
	run(t, x, 1)
	send(t, x, 0, 8)
	teardown(t, x, 0)
	for range 15 {
		wantSetup(t, x, tight, 0, 15, api.ErrLate)
		run(t, x, 1)
	}
	wantSetup(t, x, tight, 0, 15, api.ErrLate)
	run(t, x, 1)
	wantSetup(t, x, tight, 1, 0, api.OK)
	send(t, x, 1, 8)
	run(t, x, 8)
	wantGone(t, x,
		api.Gone{Flow: -1, Size: 8, Done: 8},
		api.Gone{Flow: 0, Size: 8, Ready: 1, Start: 8, Done: 16},
		api.Gone{Flow: 1, Size: 8, Ready: 17, Start: 17, Done: 25})
}

// P2: the lists of one view share nothing with each other, nor with the line.
func TestListsOfAViewAreNew(t *testing.T) {
	x := newLine(t, open, open, open, open, open, open)
	send(t, x, 4, 3)
	teardown(t, x, 5, 1, 3)
	want := api.View{Live: []int{0, 2, 4}, Stays: []int{1, 3, 5}, Waiting: 1}
	v := x.Look()
	for i := range v.Live[:cap(v.Live)] {
		v.Live[:cap(v.Live)][i] = -7
	}
	if !slices.Equal(v.Stays, want.Stays) {
		t.Errorf("P2: behind a write into Live there is %v", v.Stays)
	}
	clear(v.Stays[:cap(v.Stays)])
	wantLook(t, x, want)
}

// anyCall makes the same call, any one, on a line and on a slow one.
func anyCall(t *testing.T, r *rand.Rand, x *towpath.Line, slow *slowLine) {
	t.Helper()
	switch r.Intn(10) {
	case 0, 1:
		f := anyFlow(r)
		if r.Intn(2) == 0 {
			f.Rate, f.Due = f.Rate/4, 100-r.Intn(40)
		}
		if r.Intn(20) == 0 {
			f.Size = r.Intn(3) * 5
		}
		number, at, e := slow.Setup(f)
		wantSetup(t, x, f, number, at, e)
		wantLook(t, x, slow.Look())
	case 2:
		flow := anyNumber(r, slow)
		wantErrno(t, "P10: Teardown", x.Teardown(flow), slow.Teardown(flow))
		wantLook(t, x, slow.Look())
	default:
		call(t, r, x, slow)
	}
}

func TestFlowsComeAndGoAsTheDocumentSays(t *testing.T) {
	r := rand.New(rand.NewSource(11))
	dropped, lingered, left := 0, 0, 0
	for i := range 400 {
		var l []api.Flow
		if i%2 == 0 {
			l = anyFlows(r)
		}
		x, slow := newLine(t, l...), newSlowLine(l)
		for range 250 {
			packets, stays := len(slow.packets), len(slow.numbers(lingers))
			if anyCall(t, r, x, slow); t.Failed() {
				t.Fatalf("of the flows %v", slow.flows)
			}
			dropped += max(0, packets-len(slow.packets))
			lingered += len(slow.numbers(lingers))
			left += max(0, stays-len(slow.numbers(lingers)))
		}
		x.Run(200)
		slow.Run(200)
		wantGone(t, x, slow.Gone()...)
		wantLook(t, x, slow.Look())
	}
	if dropped < 2000 || lingered < 2000 || left < 500 {
		t.Fatalf("%d were dropped, %d lingered, %d left: this shows too little", dropped, lingered, left)
	}
}

// P1: at all kinds of numbers, in any order.
func TestSetupAndTeardownOfAllKindsOfNumbers(t *testing.T) {
	r := rand.New(rand.NewSource(12))
	numbers := []int{math.MinInt, math.MinInt32, -1, 0, 1, 2, 3, 5, 8, 9, 12, 13, 30, 31, 100, 101, math.MaxInt32, math.MaxInt}
	one := func() int { return numbers[r.Intn(len(numbers))] }
	for range 300 {
		x, slow := newLine(t), newSlowLine(nil)
		for range 100 {
			f := api.Flow{Size: one(), Peak: one(), Burst: one(), Rate: one(), Due: one()}
			number, at, e := slow.Setup(f)
			wantSetup(t, x, f, number, at, e)
			f = anyFlow(r)
			number, at, e = slow.Setup(f)
			wantSetup(t, x, f, number, at, e)
			flow, size, ticks := one(), one(), one()
			wantErrno(t, "P6: Send", x.Send(flow, size), slow.Send(flow, size))
			wantErrno(t, "P10: Teardown", x.Teardown(flow), slow.Teardown(flow))
			wantErrno(t, "P7: Run", x.Run(ticks), slow.Run(ticks))
			wantLook(t, x, slow.Look())
		}
	}
}
