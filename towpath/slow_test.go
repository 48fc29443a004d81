package towpath_test

import (
	"cmp"
	"slices"

	"towpath/api"
)

// slowLine is a line written anew from the document: it keeps every packet there ever was, and looks through all of
// them whenever it is asked, so that what a line answers is held against something else than itself.
type slowLine struct {
	flows   []api.Flow // all that ever were there, by their numbers
	states  []slowState
	now     int
	packets []*slowPacket
}

type slowState int

const (
	lives slowState = iota
	lingers
	away
)

func newSlowLine(l []api.Flow) *slowLine {
	return &slowLine{flows: slices.Clone(l), states: make([]slowState, len(l))}
}

type slowPacket struct {
	api.Gone
	never, begun, told bool
}

func (l *slowLine) ended(p *slowPacket) bool { return p.begun && p.Done <= l.now }

func (l *slowLine) of(flow int) []*slowPacket {
	var found []*slowPacket
	for _, p := range l.packets {
		if p.Flow == flow {
			found = append(found, p)
		}
	}
	return found
}

func waiting(packets []*slowPacket) int {
	n := 0
	for _, p := range packets {
		if !p.begun {
			n++
		}
	}
	return n
}

// setReady tries each tick. No flow lets a packet wait for more than 12*8 ticks behind the one ahead of it, if it lets it come.
func (l *slowLine) setReady(p *slowPacket, ahead []*slowPacket) {
	least := l.now
	if n := len(ahead); n > 0 {
		least = max(least, ahead[n-1].Ready)
		p.never = ahead[n-1].never
	}
	for p.Ready = least; !p.never && !mayBeReady(l.flows[p.Flow], p, ahead); p.Ready++ {
		p.never = p.Ready > least+200
	}
}

func mayBeReady(f api.Flow, p *slowPacket, ahead []*slowPacket) bool {
	sum := p.Size
	for i := len(ahead) - 1; i >= 0; i-- {
		sum += ahead[i].Size
		if sum > mayCome(f, p.Ready-ahead[i].Ready) {
			return false
		}
	}
	return p.Size <= mayCome(f, 0)
}

func (l *slowLine) lives(flow int) bool {
	return flow >= 0 && flow < len(l.flows) && l.states[flow] == lives
}

func (l *slowLine) Send(flow, size int) api.Errno {
	if !l.lives(flow) {
		return api.ErrNone
	}
	if size < 1 || size > l.flows[flow].Size {
		return api.ErrSize
	}
	ahead := l.of(flow)
	if waiting(ahead) >= 40 {
		return api.ErrQuota
	}
	p := &slowPacket{Gone: api.Gone{Flow: flow, Seq: len(ahead), Size: size}}
	l.setReady(p, ahead)
	l.packets = append(l.packets, p)
	return api.OK
}

func (l *slowLine) Other(size int) api.Errno {
	if size < 1 || size > 8 {
		return api.ErrSize
	}
	ahead := l.of(-1)
	if waiting(ahead) >= 40 {
		return api.ErrQuota
	}
	l.packets = append(l.packets, &slowPacket{Gone: api.Gone{Flow: -1, Seq: len(ahead), Size: size, Ready: l.now}})
	return api.OK
}

func (l *slowLine) busy() bool {
	return slices.ContainsFunc(l.packets, func(p *slowPacket) bool { return p.begun && p.Done > l.now })
}

// next is the packet that is to begin, nil if there is none.
func (l *slowLine) next() *slowPacket {
	var may, others []*slowPacket
	for _, p := range l.packets {
		switch {
		case p.begun || p.never || p.Ready > l.now:
		case p.Flow < 0:
			others = append(others, p)
		default:
			may = append(may, p)
		}
	}
	if len(may) == 0 {
		may = append(others, nil)
		return may[0]
	}
	slices.SortStableFunc(may, func(a, b *slowPacket) int {
		return cmp.Or(a.Ready+l.flows[a.Flow].Due-b.Ready-l.flows[b.Flow].Due, a.Flow-b.Flow, a.Seq-b.Seq)
	})
	return may[0]
}

func (l *slowLine) Run(ticks int) api.Errno {
	if ticks < 0 || ticks > 200 {
		return api.ErrArg
	}
	for range ticks {
		l.settle()
		if p := l.next(); p != nil && !l.busy() {
			p.begun, p.Start, p.Done = true, l.now, l.now+p.Size
		}
		l.now++
	}
	return api.OK
}

func (l *slowLine) Gone() []api.Gone {
	var gone []api.Gone
	for _, p := range l.packets {
		if l.ended(p) && !p.told {
			p.told = true
			gone = append(gone, p.Gone)
		}
	}
	slices.SortFunc(gone, func(a, b api.Gone) int { return a.Done - b.Done })
	return gone
}

func (l *slowLine) Look() api.View {
	v := api.View{Now: l.now, Others: waiting(l.of(-1)), Busy: l.busy()}
	v.Waiting = waiting(l.packets) - v.Others
	v.Live, v.Stays = l.numbers(lives), l.numbers(lingers)
	return v
}

func (l *slowLine) numbers(state slowState) []int {
	var found []int
	for i := range l.flows {
		if l.states[i] == state {
			found = append(found, i)
		}
	}
	return found
}

func (l *slowLine) Setup(f api.Flow) (int, int, api.Errno) {
	if !mayBe(f) {
		return 0, 0, api.ErrArg
	}
	together := []api.Flow{f}
	for _, i := range append(l.numbers(lives), l.numbers(lingers)...) {
		together = append(together, l.flows[i])
	}
	if len(together) > 6 {
		return 0, 0, api.ErrFull
	}
	if at := leastViolation(together); at > 0 {
		return 0, at, api.ErrLate
	}
	l.flows = append(l.flows, f)
	l.states = append(l.states, lives)
	return len(l.flows) - 1, 0, api.OK
}

func (l *slowLine) isReady(p *slowPacket) bool { return !p.never && p.Ready <= l.now }

func (l *slowLine) Teardown(flow int) api.Errno {
	if !l.lives(flow) {
		return api.ErrNone
	}
	l.packets = slices.DeleteFunc(l.packets, func(p *slowPacket) bool { return p.Flow == flow && !l.isReady(p) })
	l.states[flow] = lingers
	l.settle()
	return api.OK
}

func (l *slowLine) settle() {
	if slices.ContainsFunc(l.packets, func(p *slowPacket) bool { return p.Flow >= 0 && l.isReady(p) && !l.ended(p) }) {
		return
	}
	for _, i := range l.numbers(lingers) {
		l.states[i] = away
	}
}
