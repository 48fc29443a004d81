package towpath_test

import (
	"math"
	"math/rand"
	"slices"
	"sync"
	"testing"

	"towpath/api"
	"towpath/towpath"
)

// Written anew from the document, so that what the calls answer is held against something else than themselves.

func mayBe(f api.Flow) bool {
	return 2 <= f.Size && f.Size <= 8 && f.Size <= f.Burst && f.Burst <= 30 && 0 <= f.Rate && f.Rate <= 12 &&
		f.Rate <= f.Peak && f.Peak <= 12 && f.Size <= f.Due && f.Due <= 100
}

func mayCome(f api.Flow, ticks int) int {
	if ticks < 0 {
		return 0
	}
	return min(12*f.Size+f.Peak*ticks, 12*f.Burst+f.Rate*ticks) / 12
}

func isViolation(l []api.Flow, t int) bool {
	s := 0
	for _, f := range l {
		s += mayCome(f, t-f.Due)
	}
	return s > 0 && s+7 > t
}

// leastViolation looks far beyond where the program may look, 0 if there is none.
func leastViolation(l []api.Flow) int {
	for t := 1; t <= 4000; t++ {
		if isViolation(l, t) {
			return t
		}
	}
	return 0
}

var plain = api.Flow{Size: 4, Peak: 7, Burst: 10, Rate: 3, Due: 40}

// with is the plain flow, changed.
func with(change func(f *api.Flow)) api.Flow {
	f := plain
	change(&f)
	return f
}

func wantMost(t *testing.T, f api.Flow, ticks, want int, wantErr api.Errno) {
	t.Helper()
	if n, e := towpath.Most(f, ticks); n != want || e != wantErr {
		t.Errorf("P3: Most(%v, %d) = %d, %d, want %d, %d", f, ticks, n, e, want, wantErr)
	}
}

func wantTest(t *testing.T, l []api.Flow, want int, wantErr api.Errno) {
	t.Helper()
	if n, e := towpath.Test(l); n != want || e != wantErr {
		t.Errorf("P4: Test(%v) = %d, %d, want %d, %d", l, n, e, want, wantErr)
	}
}

func wantNew(t *testing.T, l []api.Flow, wantErr api.Errno) {
	t.Helper()
	if x, e := towpath.New(l); e != wantErr || (x != nil) != (wantErr == api.OK) {
		t.Errorf("P5: New(%v): a line is %v, %d, want %d", l, x != nil, e, wantErr)
	}
}

func TestMostOfTheDocument(t *testing.T) {
	f := api.Flow{Size: 2, Peak: 12, Burst: 6, Rate: 3, Due: 20}
	for _, c := range [][2]int{{-1, 0}, {0, 2}, {1, 3}, {4, 6}, {8, 8}, {9, 8}} {
		wantMost(t, f, c[0], c[1], api.OK)
	}
	burst := api.Flow{Size: 6, Peak: 12, Burst: 6, Rate: 3, Due: 20}
	for _, c := range [][2]int{{0, 6}, {1, 6}, {4, 7}, {8, 8}, {9, 8}} {
		wantMost(t, burst, c[0], c[1], api.OK)
	}
}

func TestMostRoundsEachDown(t *testing.T) {
	f := api.Flow{Size: 2, Peak: 5, Burst: 4, Rate: 1, Due: 20}
	for _, c := range [][2]int{{0, 2}, {2, 2}, {3, 3}, {4, 3}, {5, 4}, {11, 4}, {12, 5}, {23, 5}, {24, 6}} {
		wantMost(t, f, c[0], c[1], api.OK)
	}
}

func TestMostAtTheEdgesOfTicks(t *testing.T) {
	fast := api.Flow{Size: 8, Peak: 12, Burst: 30, Rate: 12, Due: 100}
	still := api.Flow{Size: 2, Peak: 0, Burst: 30, Rate: 0, Due: 2}
	for _, ticks := range []int{math.MinInt, math.MinInt32, -100000, -1} {
		wantMost(t, fast, ticks, 0, api.OK)
		wantMost(t, still, ticks, 0, api.OK)
	}
	for _, ticks := range []int{0, 1, 99999, 100000} {
		wantMost(t, fast, ticks, 8+ticks, api.OK)
		wantMost(t, still, ticks, 2, api.OK)
	}
	for _, ticks := range []int{100001, math.MaxInt32, math.MaxInt} {
		wantMost(t, fast, ticks, 0, api.ErrArg)
		wantMost(t, still, ticks, 0, api.ErrArg)
	}
}

func TestBoundsOfAFlow(t *testing.T) {
	for _, c := range []struct {
		name  string
		f     api.Flow
		mayBe bool
	}{
		{"least Size", with(func(f *api.Flow) { f.Size = 2 }), true},
		{"below the least Size", with(func(f *api.Flow) { f.Size = 1 }), false},
		{"greatest Size", with(func(f *api.Flow) { f.Size = api.MTU }), true},
		{"above the greatest Size", with(func(f *api.Flow) { f.Size = api.MTU + 1 }), false},
		{"least Burst", with(func(f *api.Flow) { f.Burst = f.Size }), true},
		{"below the least Burst", with(func(f *api.Flow) { f.Burst = f.Size - 1 }), false},
		{"greatest Burst", with(func(f *api.Flow) { f.Burst = api.MaxBurst }), true},
		{"above the greatest Burst", with(func(f *api.Flow) { f.Burst = api.MaxBurst + 1 }), false},
		{"least Rate", with(func(f *api.Flow) { f.Rate = 0 }), true},
		{"below the least Rate", with(func(f *api.Flow) { f.Rate = -1 }), false},
		{"greatest Rate", with(func(f *api.Flow) { f.Rate, f.Peak = api.Parts, api.Parts }), true},
		{"above the greatest Rate", with(func(f *api.Flow) { f.Rate, f.Peak = api.Parts+1, api.Parts+1 }), false},
		{"least Peak", with(func(f *api.Flow) { f.Peak = f.Rate }), true},
		{"below the least Peak", with(func(f *api.Flow) { f.Peak = f.Rate - 1 }), false},
		{"greatest Peak", with(func(f *api.Flow) { f.Peak = api.Parts }), true},
		{"above the greatest Peak", with(func(f *api.Flow) { f.Peak = api.Parts + 1 }), false},
		{"least Due", with(func(f *api.Flow) { f.Due = f.Size }), true},
		{"below the least Due", with(func(f *api.Flow) { f.Due = f.Size - 1 }), false},
		{"greatest Due", with(func(f *api.Flow) { f.Due = api.MaxDue }), true},
		{"above the greatest Due", with(func(f *api.Flow) { f.Due = api.MaxDue + 1 }), false},
		{"nothing", api.Flow{}, false},
	} {
		t.Run(c.name, func(t *testing.T) {
			if !c.mayBe {
				wantMost(t, c.f, 0, 0, api.ErrArg)
				wantTest(t, []api.Flow{c.f}, 0, api.ErrArg)
				wantNew(t, []api.Flow{plain, c.f}, api.ErrArg)
				wantSetup(t, newLine(t), c.f, 0, 0, api.ErrArg)
				return
			}
			wantMost(t, c.f, 0, c.f.Size, api.OK)
			wantNew(t, []api.Flow{plain, c.f}, api.OK)
			if _, _, e := newLine(t).Setup(c.f); e == api.ErrArg {
				t.Errorf("P9: Setup(%v) = ErrArg", c.f)
			}
			if _, e := towpath.Test([]api.Flow{c.f}); e == api.ErrArg {
				t.Errorf("P4: Test(%v) = ErrArg", c.f)
			}
		})
	}
}

// P1: every mixture of numbers at and around all bounds, and of the greatest and the least there are.
func TestMostOfAllKindsOfNumbers(t *testing.T) {
	numbers := []int{math.MinInt, -1, 0, 1, 2, 7, 8, 9, 12, 13, 30, 31, 100, 101, math.MaxInt}
	for _, size := range numbers {
		for _, peak := range numbers {
			for _, burst := range numbers {
				for _, rate := range numbers {
					for _, due := range numbers {
						f := api.Flow{Size: size, Peak: peak, Burst: burst, Rate: rate, Due: due}
						mostOfSomeTicks(t, f)
					}
				}
			}
		}
	}
}

func mostOfSomeTicks(t *testing.T, f api.Flow) {
	t.Helper()
	for _, ticks := range []int{math.MinInt, 0, 17, 100000, math.MaxInt} {
		if mayBe(f) && ticks <= 100000 {
			wantMost(t, f, ticks, mayCome(f, ticks), api.OK)
		} else {
			wantMost(t, f, ticks, 0, api.ErrArg)
		}
	}
	if !mayBe(f) {
		wantTest(t, []api.Flow{f}, 0, api.ErrArg)
		wantSetup(t, newLine(t), f, 0, 0, api.ErrArg)
	}
}

func TestTestOfTheDocument(t *testing.T) {
	wantTest(t, []api.Flow{{Size: 2, Peak: 12, Burst: 6, Rate: 3, Due: 20}}, 0, api.OK)
	wantTest(t, []api.Flow{{Size: 8, Peak: 12, Burst: 8, Rate: 0, Due: 14}}, 14, api.ErrLate)
	wantTest(t, []api.Flow{{Size: 8, Peak: 12, Burst: 8, Rate: 0, Due: 15}}, 0, api.OK)
}

func TestTestAtTheEdgesOfHowMany(t *testing.T) {
	wantTest(t, nil, 0, api.OK)
	wantTest(t, []api.Flow{}, 0, api.OK)
	small := api.Flow{Size: 2, Peak: 0, Burst: 2, Rate: 0, Due: 19} // six of them: 12 and 7 are not above 19
	wantTest(t, slices.Repeat([]api.Flow{small}, api.MaxFlows), 0, api.OK)
	wantTest(t, slices.Repeat([]api.Flow{small}, api.MaxFlows+1), 0, api.ErrArg)
	small.Due = 18
	wantTest(t, slices.Repeat([]api.Flow{small}, api.MaxFlows), 18, api.ErrLate)
	wantTest(t, slices.Repeat([]api.Flow{small}, api.MaxFlows+1), 0, api.ErrArg)
	wantTest(t, make([]api.Flow, 1<<20), 0, api.ErrArg)
}

// The answer is a violation, and no tick ahead of it is one.
func TestTestTellsTheLeastViolation(t *testing.T) {
	for _, c := range []struct {
		l    []api.Flow
		want int
	}{
		// late as soon as it is due
		{[]api.Flow{{Size: 8, Peak: 12, Burst: 30, Rate: 12, Due: 8}}, 8},
		// not late when they are due, but later on, when their peaks together have let more come than the line brings
		{[]api.Flow{{Size: 2, Peak: 12, Burst: 10, Rate: 0, Due: 15}, {Size: 2, Peak: 12, Burst: 10, Rate: 0, Due: 15}}, 20},
		// the first one leaves no room at all for the second one
		{[]api.Flow{{Size: 2, Peak: 12, Burst: 10, Rate: 12, Due: 9}, {Size: 3, Peak: 1, Burst: 5, Rate: 0, Due: 30}}, 30},
		// at the line's own rate, and late only by how the rounding falls
		{[]api.Flow{{Size: 2, Peak: 3, Burst: 30, Rate: 2, Due: 98}, {Size: 5, Peak: 12, Burst: 8, Rate: 10, Due: 33}}, 434},
		{[]api.Flow{{Size: 5, Peak: 4, Burst: 19, Rate: 3, Due: 99}, {Size: 2, Peak: 5, Burst: 30, Rate: 4, Due: 99}, {Size: 3, Peak: 6, Burst: 22, Rate: 5, Due: 46}}, 435},
		// above the line's rate by one part: late in the long run alone
		{[]api.Flow{{Size: 2, Peak: 1, Burst: 2, Rate: 1, Due: 100}, {Size: 2, Peak: 12, Burst: 2, Rate: 12, Due: 100}}, 1180},
		// six flows, of which the last one to be due is too much
		{[]api.Flow{{Size: 2, Peak: 0, Burst: 2, Rate: 0, Due: 9}, {Size: 2, Peak: 0, Burst: 2, Rate: 0, Due: 11}, {Size: 2, Peak: 0, Burst: 2, Rate: 0, Due: 13}, {Size: 2, Peak: 0, Burst: 2, Rate: 0, Due: 15}, {Size: 2, Peak: 0, Burst: 2, Rate: 0, Due: 17}, {Size: 2, Peak: 0, Burst: 2, Rate: 0, Due: 18}}, 18},
	} {
		wantTest(t, c.l, c.want, api.ErrLate)
		if !isViolation(c.l, c.want) || isViolation(c.l, c.want-1) || leastViolation(c.l) != c.want {
			t.Errorf("P4: of %v the least violation is %d, not %d", c.l, leastViolation(c.l), c.want)
		}
	}
}

// One tick of Due is all between what fits and what does not.
func TestTestBetweenFitAndLate(t *testing.T) {
	wantTest(t, []api.Flow{{Size: 2, Peak: 12, Burst: 2, Rate: 12, Due: 9}}, 0, api.OK)
	wantTest(t, []api.Flow{{Size: 2, Peak: 12, Burst: 2, Rate: 12, Due: 8}}, 8, api.ErrLate)
	two := []api.Flow{{Size: 8, Peak: 0, Burst: 8, Rate: 0, Due: 15}, {Size: 8, Peak: 0, Burst: 8, Rate: 0, Due: 23}}
	wantTest(t, two, 0, api.OK)
	two[1].Due = 22
	wantTest(t, two, 22, api.ErrLate)
}

func anyFlow(r *rand.Rand) api.Flow {
	f := api.Flow{Size: 2 + r.Intn(7), Rate: r.Intn(13) / (1 + r.Intn(5))}
	f.Burst = f.Size + r.Intn(31-f.Size)
	f.Peak = f.Rate + r.Intn(13-f.Rate)
	f.Due = max(f.Size, 100-r.Intn(95)/(1+r.Intn(9)))
	return f
}

func anyFlows(r *rand.Rand) []api.Flow {
	l := make([]api.Flow, r.Intn(api.MaxFlows+1))
	for i := range l {
		l[i] = anyFlow(r)
	}
	return l
}

func TestTestOfAnyFlows(t *testing.T) {
	r := rand.New(rand.NewSource(4))
	fit, late := 0, 0
	for range 4000 {
		l := anyFlows(r)
		if at := leastViolation(l); at > 0 {
			late++
			wantTest(t, l, at, api.ErrLate)
		} else {
			fit++
			wantTest(t, l, 0, api.OK)
		}
	}
	if fit < 400 || late < 400 {
		t.Fatalf("%d fit and %d do not: this shows too little", fit, late)
	}
}

// P1: ErrArg is named first, wherever in the list it comes from, and then no violation is told.
func TestOrderOfErrors(t *testing.T) {
	late := api.Flow{Size: 8, Peak: 12, Burst: 30, Rate: 12, Due: 8}
	wrong := api.Flow{Size: 1, Peak: 12, Burst: 30, Rate: 12, Due: 8}
	for place := range api.MaxFlows {
		l := slices.Repeat([]api.Flow{late}, api.MaxFlows)
		wantTest(t, l, 8, api.ErrLate)
		l[place] = wrong
		wantTest(t, l, 0, api.ErrArg)
	}
	wantTest(t, slices.Repeat([]api.Flow{late}, api.MaxFlows+1), 0, api.ErrArg)
	wantTest(t, slices.Repeat([]api.Flow{wrong}, api.MaxFlows+1), 0, api.ErrArg)
	wantMost(t, wrong, -1, 0, api.ErrArg)
	wantMost(t, wrong, 5, 0, api.ErrArg)
	wantMost(t, wrong, 100001, 0, api.ErrArg)
}

// P2: neither the list nor its spare room is written into, whatever the answer.
func TestTestWritesIntoNothing(t *testing.T) {
	late := api.Flow{Size: 8, Peak: 12, Burst: 30, Rate: 12, Due: 8}
	for _, l := range [][]api.Flow{
		{}, {plain}, {plain, late, plain}, {late, {}, plain}, slices.Repeat([]api.Flow{plain}, api.MaxFlows), slices.Repeat([]api.Flow{late}, api.MaxFlows+1),
	} {
		room := slices.Clone(l)
		for i := range 9 {
			room = append(room, api.Flow{Size: 70 + i})
		}
		before := slices.Clone(room)
		towpath.Test(room[:len(l)])
		if !slices.Equal(room, before) {
			t.Errorf("P2: behind Test(%v) there is %v", l, room)
		}
	}
}

// P2: neither the spare room nor what was asked ahead counts, nor what becomes of a list that was handed in.
func TestAnswersHangOnArgumentsAlone(t *testing.T) {
	r := rand.New(rand.NewSource(5))
	shared := make([]api.Flow, api.MaxFlows)
	for range 500 {
		l := anyFlows(r)
		want, wantErr := towpath.Test(l)
		n := copy(shared, l)
		wantTest(t, shared[:n], want, wantErr)
		shared[r.Intn(len(shared))] = api.Flow{Size: -1}
		towpath.Most(api.Flow{}, 3)
		towpath.Test(make([]api.Flow, 9))
		wantTest(t, slices.Clip(l), want, wantErr)
	}
}

// P2: calls at the same time do not see each other.
func TestCallsAtTheSameTime(t *testing.T) {
	var group sync.WaitGroup
	for seed := range 8 {
		group.Go(func() {
			r := rand.New(rand.NewSource(int64(seed)))
			for range 100 {
				l := anyFlows(r)
				if at, _ := towpath.Test(l); at != leastViolation(l) {
					t.Errorf("P2: Test(%v) = %d, want %d", l, at, leastViolation(l))
				}
			}
		})
	}
	group.Wait()
}
