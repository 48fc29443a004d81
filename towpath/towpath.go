// Package towpath: a line that takes no more than it can bring in time: see DOC.md.
package towpath

import (
	"towpath/api"
	"towpath/flows"
	"towpath/line"
)

// Most tells how much of a flow may come in so many ticks (P3).
func Most(f api.Flow, ticks int) (int, api.Errno) {
	n, err := flows.Most(f, ticks)
	return n, errno(err)
}

// Test tells whether flows fit (P4).
func Test(l []api.Flow) (int, api.Errno) {
	err := flows.Test(l)
	return violation(err), errno(err)
}

// Line is a line.
type Line struct {
	inner *line.Line
}

// New makes a line with flows (P5).
func New(l []api.Flow) (*Line, api.Errno) {
	inner, err := line.New(l)
	if err != nil {
		return nil, errno(err)
	}
	return &Line{inner}, api.OK
}

// Send brings a packet of a flow (P6).
func (l *Line) Send(flow int, size int) api.Errno { return errno(l.inner.Send(flow, size)) }

// Other brings a packet of none (P6).
func (l *Line) Other(size int) api.Errno { return errno(l.inner.Other(size)) }

// Run lets ticks go by (P7).
func (l *Line) Run(ticks int) api.Errno { return errno(l.inner.Run(ticks)) }

// Gone tells the packets that have gone (P8).
func (l *Line) Gone() []api.Gone { return l.inner.Gone() }

// Look tells how the line stands (P8).
func (l *Line) Look() api.View { return l.inner.Look() }

// Setup adds a flow, if it fits (P9).
func (l *Line) Setup(f api.Flow) (int, int, api.Errno) {
	number, err := l.inner.Setup(f)
	return number, violation(err), errno(err)
}

// Teardown ends a flow (P10).
func (l *Line) Teardown(flow int) api.Errno { return errno(l.inner.Teardown(flow)) }
