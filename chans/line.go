package chans

import (
	"conduit/queue"
)

// waiter is somebody who waits: a sender with its value, or a receiver, whose value is none. What a sender is told has no value.
type waiter[T any] struct {
	ticket *Ticket
	value  T
	told   func(v T, ok bool)
}

// serve serves a waiter, unless its ticket has fired.
func (w waiter[T]) serve(v T, ok bool) {
	if w.ticket.fired() {
		return
	}
	fire := w.ticket.fire
	w.ticket.fire = nil
	w.told(v, ok)
	fire()
}

// line is those who wait at one side of a channel, in order. A ticket knows nothing of the lines, so that such whose tickets have fired elsewhere stand in a line till they are passed over.
type line[T any] struct {
	*queue.Queue[waiter[T]]
	// crowded is how many may stand in the line till the next one who joins has it looked through for such whose tickets have fired, so that these don't pile up behind one who waits.
	crowded int
}

func newLine[T any]() *line[T] {
	return &line[T]{Queue: queue.Of[waiter[T]]()}
}

// join puts a waiter behind all others.
func (l *line[T]) join(w waiter[T]) {
	if l.Len() >= l.crowded {
		l.crowded = 2*l.waiting() + 1
	}
	l.Push(w)
}

// waiting takes all out whose tickets have fired: how many are left.
func (l *line[T]) waiting() int {
	l.Drop(func(w waiter[T]) bool { return w.ticket.fired() })
	return l.Len()
}

// passOver takes those out whose tickets have fired, up to the first one who waits.
func (l *line[T]) passOver() {
	for w, ok := l.At(0); ok && w.ticket.fired(); w, ok = l.At(0) {
		l.Pop()
	}
}

// next takes the first one out who waits.
func (l *line[T]) next() (waiter[T], bool) {
	l.passOver()
	return l.Pop()
}

// hasOther tells whether somebody waits, but for those with k.
func (l *line[T]) hasOther(k *Ticket) bool {
	l.passOver()
	for i := range l.Len() {
		if w, _ := l.At(i); w.ticket != k && !w.ticket.fired() {
			return true
		}
	}
	return false
}

// forget takes all out who stand in the line with k: how many they were.
func (l *line[T]) forget(k *Ticket) int {
	return l.Drop(func(w waiter[T]) bool { return w.ticket == k })
}

// leave takes all out, in order.
func (l *line[T]) leave() []waiter[T] {
	all := l.List()
	l.Drop(func(waiter[T]) bool { return true })
	return all
}
