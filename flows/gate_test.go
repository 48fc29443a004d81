package flows

import (
	"math/rand"
	"testing"

	"towpath/api"
)

// come is a packet that has come: when it is ready, and its size.
type come struct{ ready, size int }

// readyAt is when a packet is ready behind others that are, by the document's words: each tick is tried.
func readyAt(f api.Flow, ahead []come, at, size int) int {
	if n := len(ahead); n > 0 {
		at = max(at, ahead[n-1].ready)
	}
	for r := at; r < at+2000; r++ {
		if allows(f, ahead, r, size) {
			return r
		}
	}
	return Never
}

func allows(f api.Flow, ahead []come, r, size int) bool {
	sum := size
	if sum > Allowed(f, 0) {
		return false
	}
	for i := len(ahead) - 1; i >= 0; i-- {
		sum += ahead[i].size
		if sum > Allowed(f, r-ahead[i].ready) {
			return false
		}
	}
	return true
}

// wantPass brings packets, each of them {at, size, ready}.
func wantPass(t *testing.T, f api.Flow, packets ...[3]int) {
	t.Helper()
	g := NewGate(f)
	for i, p := range packets {
		if r := g.Pass(p[0], p[1]); r != p[2] {
			t.Errorf("of %v: packet %d, of size %d, brought at %d, is ready at %d, want %d", f, i, p[1], p[0], r, p[2])
		}
	}
}

func TestPassHoldsBackWhatComesTooFast(t *testing.T) {
	// held by the rate
	f := api.Flow{Size: 2, Peak: 12, Burst: 2, Rate: 3, Due: 20}
	wantPass(t, f, [3]int{0, 2, 0}, [3]int{0, 2, 8}, [3]int{0, 1, 12}, [3]int{13, 1, 16}, [3]int{100, 2, 100}, [3]int{100, 1, 104})
	// held by the peak, then by the rate
	f = api.Flow{Size: 3, Peak: 5, Burst: 4, Rate: 2, Due: 50}
	wantPass(t, f, [3]int{0, 3, 0}, [3]int{0, 1, 3}, [3]int{0, 1, 6}, [3]int{0, 1, 12})
	// never held
	f = api.Flow{Size: 8, Peak: 12, Burst: 8, Rate: 12, Due: 8}
	wantPass(t, f, [3]int{5, 8, 5}, [3]int{13, 8, 13}, [3]int{21, 8, 21}, [3]int{21, 1, 22})
}

// A rest gives back no more than all.
func TestPassBehindALongRest(t *testing.T) {
	f := api.Flow{Size: 2, Peak: 2, Burst: 3, Rate: 1, Due: 20}
	wantPass(t, f, [3]int{1 << 40, 2, 1 << 40}, [3]int{1 << 41, 2, 1 << 41}, [3]int{1 << 41, 1, 1<<41 + 6}, [3]int{1 << 41, 1, 1<<41 + 12}, [3]int{1 << 41, 1, 1<<41 + 24})
}

func TestPassNeverAgain(t *testing.T) {
	// by the rate: only so much ever
	f := api.Flow{Size: 3, Peak: 12, Burst: 4, Rate: 0, Due: 20}
	wantPass(t, f, [3]int{7, 3, 7}, [3]int{7, 1, 8}, [3]int{90, 1, Never}, [3]int{1 << 40, 1, Never})
	// what would fit is not ready either behind what is not
	wantPass(t, f, [3]int{0, 2, 0}, [3]int{9, 3, Never}, [3]int{9, 1, Never}, [3]int{99, 2, Never})
	f = api.Flow{Size: 3, Peak: 12, Burst: 10, Rate: 0, Due: 20}
	wantPass(t, f, [3]int{0, 3, 0}, [3]int{0, 3, 3}, [3]int{0, 3, 6}, [3]int{0, 2, Never}, [3]int{0, 1, Never})
	// by the peak, though the burst would let more
	f = api.Flow{Size: 3, Peak: 0, Burst: 30, Rate: 0, Due: 20}
	wantPass(t, f, [3]int{0, 2, 0}, [3]int{0, 1, 0}, [3]int{0, 1, Never}, [3]int{500, 1, Never})
	wantPass(t, f, [3]int{0, 2, 0}, [3]int{0, 3, Never}, [3]int{0, 1, Never})
}

func TestPassIsAsTheWordsSay(t *testing.T) {
	r := rand.New(rand.NewSource(8))
	held, never := 0, 0
	for range 1500 {
		f := anyFlow(r)
		g := NewGate(f)
		var ahead []come
		at := r.Intn(3)
		for range 25 {
			at += r.Intn(1+r.Intn(30)) * r.Intn(2)
			size := 1 + r.Intn(f.Size)
			want := readyAt(f, ahead, at, size)
			if got := g.Pass(at, size); got != want {
				t.Fatalf("of %v behind %v: size %d, brought at %d, is ready at %d, want %d", f, ahead, size, at, got, want)
			}
			if want == Never {
				never++
				break
			}
			if want > at {
				held++
			}
			ahead = append(ahead, come{want, size})
		}
	}
	if held < 5000 || never < 100 {
		t.Fatalf("%d were held and %d for ever: this shows too little", held, never)
	}
}
