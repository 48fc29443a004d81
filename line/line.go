// Package line: a line with its flows, the packets that wait, and those that have begun.
package line

import (
	"slices"
	"strconv"

	"towpath/api"
	"towpath/fault"
	"towpath/flows"
)

// flow is one of a line's flows.
type flow struct {
	shape   api.Flow
	gate    flows.Gate
	brought int      // how many packets of it there ever were
	waiting int      // how many of them have not begun, those that stand in the line's queue too
	held    []packet // those that do not stand there yet, in their order
	torn    bool     // it does not live any more, but lingers
}

// Line is a line. Its parts are written into by its own calls alone.
type Line struct {
	now      int
	flows    map[int]*flow // those that live and those that linger
	numbered int           // how many flows there ever were
	ready    queue
	others   []packet   // of none, in their order
	brought  int        // how many packets of none there ever were
	begun    []api.Gone // in their order, those that Gone has not told; all but the last one have ended
}

// New is a line at the tick 0 with flows that are numbered by their places: ErrArg, if there may not be these flows.
func New(l []api.Flow) (*Line, error) {
	if err := flows.CheckAll(l); err != nil {
		return nil, fault.In("New", err)
	}
	made := &Line{flows: map[int]*flow{}}
	for _, shape := range l {
		made.add(shape)
	}
	return made, nil
}

// Send brings a packet of a flow: ErrNone, if there is no such flow; ErrSize, ErrQuota, if it does not take the packet.
func (l *Line) Send(number, size int) error {
	f, err := l.live(number)
	if err != nil {
		return atFlow("Send", number, err)
	}
	if err := accept(size, f.shape.Size, f.waiting); err != nil {
		return atFlow("Send", number, err)
	}
	f.held = append(f.held, packet{number, f.brought, size, f.gate.Pass(l.now, size)})
	f.brought++
	f.waiting++
	return nil
}

func atFlow(call string, number int, err error) error {
	return fault.In(call, fault.In("flow "+strconv.Itoa(number), err))
}

// Other brings a packet of none: ErrSize, ErrQuota, if it is not taken.
func (l *Line) Other(size int) error {
	if err := accept(size, api.MTU, len(l.others)); err != nil {
		return fault.In("Other", err)
	}
	l.others = append(l.others, packet{none, l.brought, size, l.now})
	l.brought++
	return nil
}

// accept tells whether a packet is taken where so many wait.
func accept(size, most, waiting int) error {
	if size < 1 || size > most {
		return fault.In("size "+strconv.Itoa(size), fault.ErrSize)
	}
	if waiting >= api.MaxWait {
		return fault.In(strconv.Itoa(waiting)+" wait", fault.ErrQuota)
	}
	return nil
}

// busy tells whether a packet has begun and has not ended.
func (l *Line) busy() bool {
	n := len(l.begun)
	return n > 0 && l.begun[n-1].Done > l.now
}

// Gone tells the packets that have ended and that it has not told before. Both what it tells and what stays are copied:
// so they share nothing, and the line keeps nothing of what is told.
func (l *Line) Gone() []api.Gone {
	ended := len(l.begun)
	if l.busy() {
		ended--
	}
	told := append([]api.Gone(nil), l.begun[:ended]...)
	l.begun = append([]api.Gone(nil), l.begun[ended:]...)
	return told
}

// Look tells how the line stands.
func (l *Line) Look() api.View {
	v := api.View{Now: l.now, Others: len(l.others), Busy: l.busy()}
	for number, f := range l.flows {
		v.Waiting += f.waiting
		if f.torn {
			v.Stays = append(v.Stays, number)
		} else {
			v.Live = append(v.Live, number)
		}
	}
	slices.Sort(v.Live)
	slices.Sort(v.Stays)
	return v
}
