package chans

import (
	"conduit/api"
)

// Ticket: see the chapter.
type Ticket struct {
	// self is the ticket's own address: a ticket that was copied as a value is none that NewTicket answered, and could fire beside it.
	self *Ticket
	// fire is nil from when the ticket has fired.
	fire func()
}

// NewTicket: see the chapter, P16.5.
func NewTicket(fire func()) *Ticket {
	if fire == nil {
		return nil
	}
	k := &Ticket{fire: fire}
	k.self = k
	return k
}

// WaitSend: see the chapter, P16.5.
func (c *Chan[T]) WaitSend(v T, k *Ticket, told func(ok bool)) api.Errno {
	switch {
	case !c.made() || !k.made() || told == nil:
		return api.ErrNil
	case k.fired() || c.canSend(k):
		return api.ErrArg
	}
	c.senders.join(waiter[T]{k, v, func(_ T, ok bool) { told(ok) }})
	return api.OK
}

// WaitRecv: see the chapter, P16.5.
func (c *Chan[T]) WaitRecv(k *Ticket, told func(v T, ok bool)) api.Errno {
	switch {
	case !c.made() || !k.made() || told == nil:
		return api.ErrNil
	case k.fired() || c.canRecv(k):
		return api.ErrArg
	}
	var nothing T
	c.receivers.join(waiter[T]{k, nothing, told})
	return api.OK
}

// Forget: see the chapter, P16.5. With a ticket that has fired nobody waits: whoever still stands in a line goes, but does not count.
func (c *Chan[T]) Forget(k *Ticket) int {
	if !c.made() || !k.made() {
		return 0
	}
	gone := c.senders.forget(k) + c.receivers.forget(k)
	if k.fired() {
		return 0
	}
	return gone
}

func (k *Ticket) made() bool {
	return k != nil && k.self == k
}

func (k *Ticket) fired() bool {
	return k.fire == nil
}
