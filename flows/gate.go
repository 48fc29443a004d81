package flows

import (
	"math"

	"towpath/api"
)

// Never is the tick of what does not come to pass: later than any tick that a line comes to.
const Never = math.MaxInt

// bucket holds what may come at once, in parts of a unit, so that nothing is rounded. A sum of sizes is a whole number:
// it is at most E, which is rounded down, just if it is at most what E is rounded from.
type bucket struct {
	level, most, rate int
}

func (b *bucket) fill(ticks int) {
	b.level = min(b.most, b.level+b.rate*ticks)
}

// wait is how many ticks go by until there is so much in the bucket, Never if that does not come to pass.
func (b *bucket) wait(need int) int {
	short := need - b.level
	switch {
	case short <= 0:
		return 0
	case b.rate == 0:
		return Never
	}
	return (short + b.rate - 1) / b.rate
}

// Gate tells when the packets of one flow are ready.
//
// That a packet, with those of the flow ahead of it from any one on, is at most E, is to say that it finds enough in
// each of two buckets: one that holds Size and is filled by Peak, one that holds Burst and is filled by Rate. So no
// packet that has been ready need be kept.
type Gate struct {
	peak, burst bucket
	last        int // the tick at which the packet ahead is ready: the buckets are as they are then, behind it
}

// NewGate is the gate of a flow that may be, of which nothing has come.
func NewGate(f api.Flow) Gate {
	return Gate{
		peak:  bucket{f.Size * api.Parts, f.Size * api.Parts, f.Peak},
		burst: bucket{f.Burst * api.Parts, f.Burst * api.Parts, f.Rate},
	}
}

// Pass takes the flow's next packet, of a size that it may have, and is the tick at which it is ready, brought at the
// tick at. Behind a packet that is Never ready none is.
func (g *Gate) Pass(at, size int) int {
	if g.last == Never {
		return Never
	}
	need := size * api.Parts
	g.rest(max(0, at-g.last))
	wait := max(g.peak.wait(need), g.burst.wait(need))
	if wait == Never {
		g.last = Never
		return Never
	}
	g.rest(wait)
	g.peak.level -= need
	g.burst.level -= need
	return g.last
}

// rest lets ticks go by in which nothing comes.
func (g *Gate) rest(ticks int) {
	g.peak.fill(ticks)
	g.burst.fill(ticks)
	g.last += ticks
}
