package line

import (
	"strconv"

	"towpath/api"
	"towpath/fault"
	"towpath/flows"
)

// Setup adds a flow and is its number: ErrArg, if the flow may not be; ErrFull, if there are as many as may; the least
// Violation, if it does not fit together with those that are there.
func (l *Line) Setup(shape api.Flow) (int, error) {
	if err := l.admit(shape); err != nil {
		return 0, fault.In("Setup", err)
	}
	return l.add(shape), nil
}

// admit tells whether one more flow may be there. One that lingers still counts: what is ready of it can make others late.
func (l *Line) admit(shape api.Flow) error {
	if err := flows.Check(shape); err != nil {
		return err
	}
	if n := len(l.flows); n >= api.MaxFlows {
		return fault.In(strconv.Itoa(n)+" flows", fault.ErrFull)
	}
	together := []api.Flow{shape}
	for _, f := range l.flows {
		together = append(together, f.shape)
	}
	return flows.Fit(together)
}

// add puts a flow there, under a number that none ever had.
func (l *Line) add(shape api.Flow) int {
	number := l.numbered
	l.flows[number] = &flow{shape: shape, gate: flows.NewGate(shape)}
	l.numbered++
	return number
}

// live is the flow of a number: ErrNone, if none lives that has it.
func (l *Line) live(number int) (*flow, error) {
	f, there := l.flows[number]
	if !there || f.torn {
		return nil, fault.ErrNone
	}
	return f, nil
}

// Teardown ends a flow, and drops its packets that are not ready: ErrNone, if there is no such flow.
func (l *Line) Teardown(number int) error {
	f, err := l.live(number)
	if err != nil {
		return atFlow("Teardown", number, err)
	}
	l.release() // what is ready now stays, though no Run has come by since it was brought
	f.waiting -= len(f.held)
	f.held = nil
	f.torn = true
	l.settle()
	return nil
}

// settle lets the flows that linger be away, if nothing of any flow is ready or under way. Those packets are asked for
// that stand in the queue, and so release goes ahead of it.
func (l *Line) settle() {
	if len(l.ready) > 0 || l.carries() {
		return
	}
	for number, f := range l.flows {
		if f.torn {
			delete(l.flows, number)
		}
	}
}

// carries tells whether a packet of a flow is under way.
func (l *Line) carries() bool {
	return l.busy() && l.begun[len(l.begun)-1].Flow != none
}
