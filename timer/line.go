package timer

import (
	"container/heap"
)

// timer is one that has neither fired nor been stopped.
type timer struct {
	no  int
	due int64
	// told lets whoever waits for it know that it has fired, or that it was stopped.
	told func(now int64, ok bool)
	// at is its place in the order.
	at int
}

// line is timers, found by their numbers, and by who is due first.
type line struct {
	order order
	byNo  map[int]*timer
}

func newLine() *line {
	return &line{byNo: map[int]*timer{}}
}

func (l *line) count() int {
	return len(l.byNo)
}

func (l *line) join(w *timer) {
	l.byNo[w.no] = w
	heap.Push(&l.order, w)
}

// leave takes a timer out, if it is there.
func (l *line) leave(no int) (*timer, bool) {
	w, ok := l.byNo[no]
	if ok {
		delete(l.byNo, no)
		heap.Remove(&l.order, w.at)
	}
	return w, ok
}

// first is who is due ahead of all others, if there is anybody.
func (l *line) first() (*timer, bool) {
	if len(l.order) == 0 {
		return nil, false
	}
	return l.order[0], true
}

// order is timers as container/heap orders them: at the head is who is due first, and of the same time who has the least number.
type order []*timer

// Len: see container/heap.
func (o order) Len() int {
	return len(o)
}

// Less: see container/heap.
func (o order) Less(i, j int) bool {
	if o[i].due != o[j].due {
		return o[i].due < o[j].due
	}
	return o[i].no < o[j].no
}

// Swap: see container/heap.
func (o order) Swap(i, j int) {
	o[i], o[j] = o[j], o[i]
	o[i].at, o[j].at = i, j
}

// Push: see container/heap.
func (o *order) Push(x any) {
	w := x.(*timer)
	w.at = len(*o)
	*o = append(*o, w)
}

// Pop: see container/heap.
func (o *order) Pop() any {
	last := len(*o) - 1
	w := (*o)[last]
	// The room behind the end may stay: it would keep the timer, and whoever waits for it.
	(*o)[last] = nil
	*o = (*o)[:last]
	return w
}
