package chans

import (
	"slices"

	"conduit/api"
	"conduit/csp"
)

// Send: see the chapter, P16.3.
func Send[T any](t *csp.Task, c *Chan[T], v T, then func(ok bool)) api.Errno {
	if e := refused(t, c, then == nil); e != api.OK {
		return e
	}
	if c.canSend(nil) {
		ok := c.sendNow(v)
		return t.Yield(func() { then(ok) })
	}
	return parkIn(c.senders, t, v, func(_ T, ok bool) { then(ok) })
}

// Recv: see the chapter, P16.3.
func Recv[T any](t *csp.Task, c *Chan[T], then func(v T, ok bool)) api.Errno {
	if e := refused(t, c, then == nil); e != api.OK {
		return e
	}
	if c.canRecv(nil) {
		v, ok := c.recvNow()
		return t.Yield(func() { then(v, ok) })
	}
	var nothing T
	return parkIn(c.receivers, t, nothing, then)
}

// refused is why a task may not send or receive at a channel now, if it may not.
func refused[T any](t *csp.Task, c *Chan[T], nothing bool) api.Errno {
	switch {
	case t.Runtime() == nil || !c.made() || nothing:
		return api.ErrNil
	case t.Runtime() != c.runtime:
		return api.ErrOther
	case !isSilent(t):
		return t.Yield(func() {})
	}
	return api.OK
}

// isSilent tells whether a task could yield: whether it is running, and has not said how it goes on. To yield is no way to ask, since whoever is served has to get ready ahead of the task.
func isSilent(t *csp.Task) bool {
	r := t.Runtime()
	return !t.Over() && !slices.Contains(r.Ready(), t.Id()) && !slices.Contains(r.Parked(), t.Id())
}

// parkIn parks a task that may, and lets it wait in a line. If somebody else wakes it ahead of its being served, it parks again, and keeps its place.
func parkIn[T any](l *line[T], t *csp.Task, v T, then func(v T, ok bool)) api.Errno {
	var served func()
	var turn func(why int)
	turn = func(int) {
		if served == nil {
			t.Park(turn)
			return
		}
		served()
	}
	k := NewTicket(func() { t.Wake(0) })
	l.join(waiter[T]{k, v, func(v T, ok bool) { served = func() { then(v, ok) } }})
	return t.Park(turn)
}
