package line

import "cmp"

// none is the number of no flow.
const none = -1

// packet is one that has not begun: the how manieth it is of its flow, and from which tick on it may go. One of none
// may go when it is brought.
type packet struct {
	flow, seq, size, ready int
}

// entry is a packet of a flow that is ready: only then it has a deadline.
type entry struct {
	packet
	deadline int
}

// queue is a heap, for container/heap: on top stands the packet that is to begin first.
type queue []entry

func (q queue) Len() int { return len(q) }

// No two packets are alike in all three, so that it does not matter in which order they came.
func (q queue) Less(i, j int) bool {
	a, b := q[i], q[j]
	return cmp.Or(cmp.Compare(a.deadline, b.deadline), cmp.Compare(a.flow, b.flow), cmp.Compare(a.seq, b.seq)) < 0
}

func (q queue) Swap(i, j int) { q[i], q[j] = q[j], q[i] }

func (q *queue) Push(x any) { *q = append(*q, x.(entry)) }

func (q *queue) Pop() any {
	last := len(*q) - 1
	e := (*q)[last]
	*q = (*q)[:last]
	return e
}
