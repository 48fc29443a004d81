package line

import (
	"container/heap"
	"strconv"

	"towpath/api"
	"towpath/fault"
)

// Run lets ticks go by: ErrArg, if there may not be so many.
func (l *Line) Run(ticks int) error {
	if ticks < 0 || ticks > api.MaxRun {
		return fault.In("Run", fault.In(strconv.Itoa(ticks)+" ticks", fault.ErrArg))
	}
	for range ticks {
		l.release()
		l.settle()
		l.begin()
		l.now++
	}
	return nil
}

// release lets the packets that are ready at this tick into the queue.
func (l *Line) release() {
	for _, f := range l.flows {
		for len(f.held) > 0 && f.held[0].ready <= l.now {
			p := f.held[0]
			f.held = f.held[1:]
			heap.Push(&l.ready, entry{p, p.ready + f.shape.Due})
		}
	}
}

// begin lets the packet begin that may, if there is one and the line is not busy.
func (l *Line) begin() {
	if l.busy() {
		return
	}
	p, there := l.next()
	if !there {
		return
	}
	l.begun = append(l.begun, api.Gone{
		Flow: p.flow, Seq: p.seq, Size: p.size,
		Ready: p.ready, Start: l.now, Done: l.now + p.size,
	})
}

// next takes the packet that is to begin out of those that wait.
func (l *Line) next() (p packet, there bool) {
	switch {
	case len(l.ready) > 0:
		p = heap.Pop(&l.ready).(entry).packet
		l.flows[p.flow].waiting--
		return p, true
	case len(l.others) > 0:
		p = l.others[0]
		l.others = l.others[1:]
		return p, true
	}
	return packet{}, false
}
