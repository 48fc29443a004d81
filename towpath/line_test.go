package towpath_test

import (
	"math"
	"math/rand"
	"slices"
	"sync"
	"testing"

	"towpath/api"
	"towpath/towpath"
)

// open lets everything be ready when it comes, if no more than 8 comes at once.
var open = api.Flow{Size: 8, Peak: 12, Burst: 30, Rate: 12, Due: 30}

func newLine(t *testing.T, l ...api.Flow) *towpath.Line {
	t.Helper()
	x, e := towpath.New(l)
	if x == nil || e != api.OK {
		t.Fatalf("P5: New(%v): a line is %v, %d", l, x != nil, e)
	}
	return x
}

func wantErrno(t *testing.T, what string, e, want api.Errno) {
	t.Helper()
	if e != want {
		t.Errorf("%s = %d, want %d", what, e, want)
	}
}

func send(t *testing.T, x *towpath.Line, flow int, sizes ...int) {
	t.Helper()
	for _, size := range sizes {
		wantErrno(t, "P6: Send", x.Send(flow, size), api.OK)
	}
}

func other(t *testing.T, x *towpath.Line, sizes ...int) {
	t.Helper()
	for _, size := range sizes {
		wantErrno(t, "P6: Other", x.Other(size), api.OK)
	}
}

func run(t *testing.T, x *towpath.Line, ticks int) {
	t.Helper()
	wantErrno(t, "P7: Run", x.Run(ticks), api.OK)
}

func wantGone(t *testing.T, x *towpath.Line, want ...api.Gone) {
	t.Helper()
	if l := x.Gone(); !slices.Equal(l, want) {
		t.Errorf("P8: Gone() = %+v, want %+v", l, want)
	}
}

func sameView(a, b api.View) bool {
	return a.Now == b.Now && slices.Equal(a.Live, b.Live) && slices.Equal(a.Stays, b.Stays) &&
		a.Waiting == b.Waiting && a.Others == b.Others && a.Busy == b.Busy
}

func wantLook(t *testing.T, x *towpath.Line, want api.View) {
	t.Helper()
	if v := x.Look(); !sameView(v, want) {
		t.Errorf("P8: Look() = %+v, want %+v", v, want)
	}
}

func TestLineOfTheDocument(t *testing.T) {
	x := newLine(t, api.Flow{Size: 2, Peak: 12, Burst: 2, Rate: 3, Due: 20})
	send(t, x, 0, 2, 2)
	wantLook(t, x, api.View{Live: []int{0}, Waiting: 2})
	run(t, x, 20)
	wantGone(t, x, api.Gone{Size: 2, Done: 2}, api.Gone{Seq: 1, Size: 2, Ready: 8, Start: 8, Done: 10})
	wantLook(t, x, api.View{Now: 20, Live: []int{0}})
}

func TestNewAtTheEdgesOfHowMany(t *testing.T) {
	wantLook(t, newLine(t), api.View{})
	wantNew(t, nil, api.OK)
	wantNew(t, []api.Flow{}, api.OK)
	six := slices.Repeat([]api.Flow{plain}, api.MaxFlows)
	wantLook(t, newLine(t, six...), api.View{Live: []int{0, 1, 2, 3, 4, 5}})
	wantNew(t, append(six, plain), api.ErrArg)
	wantNew(t, []api.Flow{{}}, api.ErrArg)
	wantNew(t, []api.Flow{plain, plain, {}}, api.ErrArg)
}

// New takes flows that do not fit.
func TestNewOfFlowsThatDoNotFit(t *testing.T) {
	late := api.Flow{Size: 8, Peak: 12, Burst: 30, Rate: 12, Due: 8}
	x := newLine(t, late, late)
	send(t, x, 0, 8)
	send(t, x, 1, 8)
	run(t, x, 16)
	wantGone(t, x, api.Gone{Size: 8, Done: 8}, api.Gone{Flow: 1, Size: 8, Start: 8, Done: 16})
}

// The number of a flow is its place.
func TestNumbersArePlaces(t *testing.T) {
	var l []api.Flow
	for i := range api.MaxFlows {
		f := open
		f.Size, f.Due = 2+i, 50-i
		l = append(l, f)
	}
	x := newLine(t, l...)
	var want []api.Gone
	for i := range l {
		wantErrno(t, "P6: Send above the Size", x.Send(i, l[i].Size+1), api.ErrSize)
		send(t, x, i, l[i].Size)
	}
	at := 0
	for i := len(l) - 1; i >= 0; i-- {
		want = append(want, api.Gone{Flow: i, Size: 2 + i, Start: at, Done: at + 2 + i})
		at += 2 + i
	}
	run(t, x, at)
	wantGone(t, x, want...)
}

// P1: of several errors the one named first, and then nothing has changed.
func TestSendRefused(t *testing.T) {
	x := newLine(t, plain, plain)
	for range api.MaxWait {
		send(t, x, 0, 1)
	}
	before := x.Look()
	for _, flow := range []int{math.MinInt, -2, -1, 2, 3, math.MaxInt} {
		for _, size := range []int{math.MinInt, -1, 0, 1, 4, 5, math.MaxInt} {
			wantErrno(t, "P6: Send of no flow", x.Send(flow, size), api.ErrNone)
		}
	}
	for _, size := range []int{math.MinInt, -1, 0, 5, 8, math.MaxInt} {
		for flow := range 2 {
			wantErrno(t, "P6: Send of a size that may not be", x.Send(flow, size), api.ErrSize)
		}
	}
	for size := 1; size <= 4; size++ {
		wantErrno(t, "P6: Send to a full flow", x.Send(0, size), api.ErrQuota)
	}
	wantLook(t, x, before)
	send(t, x, 1, 4, 1)
	wantLook(t, x, api.View{Live: []int{0, 1}, Waiting: 42})
}

func TestOtherRefused(t *testing.T) {
	x := newLine(t, plain)
	for range api.MaxWait {
		other(t, x, 8)
	}
	for _, size := range []int{math.MinInt, -1, 0, 9, math.MaxInt} {
		wantErrno(t, "P6: Other of a size that may not be", x.Other(size), api.ErrSize)
		wantErrno(t, "P6: Other of a size that may not be", newLine(t).Other(size), api.ErrSize)
	}
	for size := 1; size <= 8; size++ {
		wantErrno(t, "P6: Other when many wait", x.Other(size), api.ErrQuota)
	}
	wantLook(t, x, api.View{Live: []int{0}, Others: 40})
	send(t, x, 0, 1)
	wantLook(t, x, api.View{Live: []int{0}, Others: 40, Waiting: 1})
}

// A packet counts until it begins, not until it is ready, nor until it has ended.
func TestQuotaIsOfWhatHasNotBegun(t *testing.T) {
	x := newLine(t, api.Flow{Size: 8, Peak: 12, Burst: 8, Rate: 1, Due: 20})
	for range 2 * api.MaxWait {
		x.Send(0, 4)
		x.Other(8)
	}
	for range 6 {
		wantErrno(t, "P6: Send when many wait", x.Send(0, 1), api.ErrQuota)
		wantErrno(t, "P6: Other when many wait", x.Other(1), api.ErrQuota)
		run(t, x, 0)
	}
	run(t, x, 1) // the first one of the flow is under way
	send(t, x, 0, 1)
	wantErrno(t, "P6: Send when many wait", x.Send(0, 1), api.ErrQuota)
	wantErrno(t, "P6: Other when many wait", x.Other(1), api.ErrQuota)
	run(t, x, 7) // the second one has begun and ended, and none else is ready
	send(t, x, 0, 1)
	wantErrno(t, "P6: Send when many wait", x.Send(0, 1), api.ErrQuota)
	wantErrno(t, "P6: Other when many wait", x.Other(1), api.ErrQuota)
	run(t, x, 1)
	wantErrno(t, "P6: Send when many wait", x.Send(0, 1), api.ErrQuota)
	other(t, x, 1)
	wantErrno(t, "P6: Other when many wait", x.Other(1), api.ErrQuota)
	wantLook(t, x, api.View{Now: 9, Live: []int{0}, Waiting: 40, Others: 40, Busy: true})
}

// What is never ready waits for ever, and holds back all behind it, though that alone would be ready.
func TestNeverReady(t *testing.T) {
	x := newLine(t, api.Flow{Size: 3, Peak: 12, Burst: 4, Rate: 0, Due: 9}, open)
	send(t, x, 0, 3, 2, 1)
	send(t, x, 1, 2)
	other(t, x, 5)
	run(t, x, 200)
	wantGone(t, x, api.Gone{Size: 3, Done: 3}, api.Gone{Flow: 1, Size: 2, Start: 3, Done: 5}, api.Gone{Flow: -1, Size: 5, Start: 5, Done: 10})
	wantLook(t, x, api.View{Now: 200, Live: []int{0, 1}, Waiting: 2})
	for range 38 {
		send(t, x, 0, 1)
	}
	wantErrno(t, "P6: Send when many wait", x.Send(0, 1), api.ErrQuota)
	run(t, x, 200)
	wantGone(t, x)
	wantLook(t, x, api.View{Now: 400, Live: []int{0, 1}, Waiting: 40})
}

func TestRunRefused(t *testing.T) {
	x := newLine(t, plain)
	send(t, x, 0, 4, 4)
	run(t, x, 1)
	before := x.Look()
	for _, ticks := range []int{math.MinInt, -200, -1, 201, 1 << 32, math.MaxInt} {
		wantErrno(t, "P7: Run", x.Run(ticks), api.ErrArg)
	}
	wantLook(t, x, before)
	run(t, x, api.MaxRun)
	wantGone(t, x, api.Gone{Size: 4, Done: 4}, api.Gone{Seq: 1, Size: 4, Ready: 7, Start: 7, Done: 11})
	wantLook(t, x, api.View{Now: 201, Live: []int{0}})
}

// At the tick at which a Run ends nothing begins until the next one.
func TestRunBeginsAtTheTicksItGoesThrough(t *testing.T) {
	x := newLine(t, open)
	send(t, x, 0, 3, 2)
	run(t, x, 0)
	wantLook(t, x, api.View{Live: []int{0}, Waiting: 2})
	run(t, x, 1)
	wantLook(t, x, api.View{Now: 1, Live: []int{0}, Waiting: 1, Busy: true})
	run(t, x, 1)
	wantGone(t, x)
	wantLook(t, x, api.View{Now: 2, Live: []int{0}, Waiting: 1, Busy: true})
	run(t, x, 1)
	wantLook(t, x, api.View{Now: 3, Live: []int{0}, Waiting: 1})
	wantGone(t, x, api.Gone{Size: 3, Done: 3})
	run(t, x, 0)
	wantLook(t, x, api.View{Now: 3, Live: []int{0}, Waiting: 1})
	run(t, x, 1)
	wantLook(t, x, api.View{Now: 4, Live: []int{0}, Busy: true})
	run(t, x, 1)
	wantGone(t, x, api.Gone{Seq: 1, Size: 2, Start: 3, Done: 5})
	wantGone(t, x)
}

// Of several with the same deadline the flow with the least number goes first, of one flow the first one.
func TestOrderOfWhatMayGo(t *testing.T) {
	soon, late := open, open
	soon.Due, late.Due = 20, 22
	x := newLine(t, late, soon, soon, late)
	other(t, x, 4) // nothing else may go at the tick 0
	run(t, x, 1)
	send(t, x, 3, 1)
	send(t, x, 2, 1, 1)
	send(t, x, 0, 1)
	send(t, x, 1, 1)
	run(t, x, 2)
	send(t, x, 1, 1) // due at 23, as those of the flows 0 and 3 that came at 1
	other(t, x, 1)
	run(t, x, 20)
	wantGone(t, x,
		api.Gone{Flow: -1, Size: 4, Done: 4},
		api.Gone{Flow: 1, Size: 1, Ready: 1, Start: 4, Done: 5},
		api.Gone{Flow: 2, Size: 1, Ready: 1, Start: 5, Done: 6},
		api.Gone{Flow: 2, Seq: 1, Size: 1, Ready: 1, Start: 6, Done: 7},
		api.Gone{Flow: 0, Size: 1, Ready: 1, Start: 7, Done: 8},
		api.Gone{Flow: 1, Seq: 1, Size: 1, Ready: 3, Start: 8, Done: 9},
		api.Gone{Flow: 3, Size: 1, Ready: 1, Start: 9, Done: 10},
		api.Gone{Flow: -1, Seq: 1, Size: 1, Ready: 3, Start: 10, Done: 11})
}

// What is under way goes on, whatever comes.
func TestWhatIsUnderWayGoesOn(t *testing.T) {
	soon := open
	soon.Due = 8
	x := newLine(t, open, soon)
	other(t, x, 8)
	run(t, x, 1)
	send(t, x, 0, 6)
	run(t, x, 8)
	send(t, x, 1, 8)
	run(t, x, 14)
	wantGone(t, x,
		api.Gone{Flow: -1, Size: 8, Done: 8},
		api.Gone{Size: 6, Ready: 1, Start: 8, Done: 14},
		api.Gone{Flow: 1, Size: 8, Ready: 9, Start: 14, Done: 22})
}

// The number of a packet counts all that were taken, and none that were refused.
func TestSeqCountsWhatWasTaken(t *testing.T) {
	x := newLine(t, open)
	for i := range 90 {
		x.Send(0, 0)
		x.Send(0, 9)
		x.Other(0)
		x.Other(9)
		send(t, x, 0, 1)
		other(t, x, 1)
		run(t, x, 2)
		wantGone(t, x, api.Gone{Seq: i, Size: 1, Ready: 2 * i, Start: 2 * i, Done: 2*i + 1}, api.Gone{Flow: -1, Seq: i, Size: 1, Ready: 2 * i, Start: 2*i + 1, Done: 2*i + 2})
	}
}

// P2: the list of flows is neither written into nor kept.
func TestNewKeepsNoList(t *testing.T) {
	room := []api.Flow{open, plain, {Size: 77}, {Size: 78}}
	before := slices.Clone(room)
	x := newLine(t, room[:2]...)
	y, e := towpath.New(room[:3])
	if y != nil || e != api.ErrArg || !slices.Equal(room, before) {
		t.Errorf("P2: behind New there is %v", room)
	}
	clear(room)
	send(t, x, 0, 8)
	wantErrno(t, "P6: Send above the Size", x.Send(1, 5), api.ErrSize)
	run(t, x, 8)
	wantGone(t, x, api.Gone{Size: 8, Done: 8})
	if slices.ContainsFunc(room, func(f api.Flow) bool { return f != api.Flow{} }) {
		t.Errorf("P2: behind the line's calls there is %v", room)
	}
}

// P2: what is written into a list that came out, or into its spare room, is not to be seen, and no later call writes there.
func TestListsThatComeOutAreNew(t *testing.T) {
	x, y := newLine(t, open, plain), newLine(t, open, plain)
	var lists [][]api.Gone
	for i := range 60 {
		for _, l := range []*towpath.Line{x, y} {
			send(t, l, 0, 1+i%8)
			other(t, l, 1+i%3)
			run(t, l, 5+i%9)
		}
		v, gone := x.Look(), x.Gone()
		wantLook(t, y, v)
		wantGone(t, y, gone...)
		for _, numbers := range [][]int{v.Live, v.Stays} {
			clear(numbers[:cap(numbers)])
		}
		gone = gone[:cap(gone)]
		for k := range gone {
			gone[k] = api.Gone{Flow: 1000 + i, Seq: k}
		}
		lists = append(lists, gone)
	}
	wantLook(t, x, y.Look())
	for i, gone := range lists {
		for k := range gone {
			if gone[k] != (api.Gone{Flow: 1000 + i, Seq: k}) {
				t.Fatalf("P2: a list of Gone has been written into: %v", gone)
			}
		}
	}
}

// anyNumber is most often that of a flow that lives.
func anyNumber(r *rand.Rand, slow *slowLine) int {
	if live := slow.numbers(lives); len(live) > 0 && r.Intn(8) > 0 {
		return live[r.Intn(len(live))]
	}
	return r.Intn(len(slow.flows)+2) - 1
}

// call makes the same call, any one but Setup and Teardown, on a line and on a slow one.
func call(t *testing.T, r *rand.Rand, x *towpath.Line, slow *slowLine) {
	t.Helper()
	flow, size := anyNumber(r, slow), 1+r.Intn(1+r.Intn(8))
	if r.Intn(20) == 0 {
		size = r.Intn(13) - 2
	}
	switch r.Intn(8) {
	case 0, 1, 2:
		for range 1 + r.Intn(4) {
			wantErrno(t, "P6: Send", x.Send(flow, size), slow.Send(flow, size))
		}
	case 3:
		wantErrno(t, "P6: Other", x.Other(size), slow.Other(size))
	case 4, 5, 6:
		ticks := r.Intn(1 + r.Intn(14))
		if r.Intn(20) == 0 {
			ticks = r.Intn(220) - 10
		}
		wantErrno(t, "P7: Run", x.Run(ticks), slow.Run(ticks))
	case 7:
		wantGone(t, x, slow.Gone()...)
	}
	wantLook(t, x, slow.Look())
}

// closeFlows is like anyFlows, but with few different times, so that deadlines meet.
func closeFlows(r *rand.Rand) []api.Flow {
	l := anyFlows(r)
	for i := range l {
		l[i].Due = 10 + r.Intn(3)
		l[i].Rate /= 1 + r.Intn(6)
	}
	return l
}

func TestLineIsAsTheDocumentSays(t *testing.T) {
	r := rand.New(rand.NewSource(6))
	gone, held, never, late, met := 0, 0, 0, 0, 0
	for i := range 400 {
		l := anyFlows(r)
		if i%2 == 0 {
			l = closeFlows(r)
		}
		x, slow := newLine(t, l...), newSlowLine(l)
		for range 150 {
			if call(t, r, x, slow); t.Failed() {
				t.Fatalf("of the flows %v", l)
			}
		}
		x.Run(200)
		slow.Run(200)
		wantGone(t, x, slow.Gone()...)
		meets := map[int]int{}
		for _, p := range slow.packets {
			switch {
			case p.never:
				never++
			case p.Flow < 0:
			case p.begun:
				gone++
				deadline := p.Ready + l[p.Flow].Due
				late += min(1, max(0, p.Done-deadline))
				meets[deadline]++
				met += min(1, meets[deadline]-1)
			default:
				held++
			}
		}
	}
	if gone < 9000 || held < 1000 || never < 1000 || late < 1000 || met < 1000 {
		t.Fatalf("%d have gone, %d were held, %d for ever, %d late, %d deadlines met: this shows too little", gone, held, never, late, met)
	}
}

// It does not matter by how many Runs the ticks go by, nor how often one looks.
func TestRunsAddUp(t *testing.T) {
	r := rand.New(rand.NewSource(7))
	for range 200 {
		l := anyFlows(r)
		x, y := newLine(t, l...), newLine(t, l...)
		var one, many []api.Gone
		for range 20 {
			for range r.Intn(6) {
				flow, size := r.Intn(9), 1+r.Intn(8)
				wantErrno(t, "P6: Send", x.Send(flow, size), y.Send(flow, size))
				wantErrno(t, "P6: Other", x.Other(size), y.Other(size))
			}
			if r.Intn(4) == 0 {
				flow := r.Intn(9)
				wantErrno(t, "P10: Teardown", x.Teardown(flow), y.Teardown(flow))
			}
			f := anyFlow(r)
			number, at, e := y.Setup(f)
			wantSetup(t, x, f, number, at, e)
			ticks := r.Intn(30)
			run(t, x, ticks)
			for range ticks {
				y.Look()
				many = append(many, y.Gone()...)
				run(t, y, 1)
			}
		}
		one = x.Gone()
		many = append(many, y.Gone()...)
		if !slices.Equal(one, many) {
			t.Fatalf("P7: of %v: %v have gone, by single ticks %v", l, one, many)
		}
	}
}

// P2: lines that are used at the same time do not see each other.
func TestLinesAtTheSameTime(t *testing.T) {
	var group sync.WaitGroup
	for seed := range 8 {
		group.Go(func() {
			r := rand.New(rand.NewSource(int64(seed)))
			for range 10 {
				l := anyFlows(r)
				x, e := towpath.New(l)
				if e != api.OK {
					t.Errorf("P5: New(%v) = %d", l, e)
					return
				}
				slow := newSlowLine(l)
				for range 60 {
					call(t, r, x, slow)
				}
			}
		})
	}
	group.Wait()
}
