package chans

import (
	"fmt"
	"math"
	"reflect"
	"slices"
	"testing"

	"conduit/api"
	"conduit/csp"
)

// answers says what a call must answer.
func answers[T comparable](t *testing.T, what string, got, want T) {
	t.Helper()
	if got != want {
		t.Fatalf("%s: %v, want %v", what, got, want)
	}
}

// lists says what a call must list.
func lists[T comparable](t *testing.T, what string, got []T, want ...T) {
	t.Helper()
	if !slices.Equal(got, want) {
		t.Fatalf("%s: %v, want %v", what, got, want)
	}
}

// stands says which tasks must be ready, and which parked.
func stands(t *testing.T, what string, r *csp.Runtime, ready, parked []int) {
	t.Helper()
	lists(t, what+": Ready", r.Ready(), ready...)
	lists(t, what+": Parked", r.Parked(), parked...)
}

// look is all that can be asked of a channel.
type look struct {
	len, cap           int
	closed             bool
	senders, receivers int
	canSend, canRecv   bool
}

func lookAt[T any](c *Chan[T]) look {
	l := look{len: c.Len(), cap: c.Cap(), closed: c.Closed()}
	l.canSend, l.canRecv = c.Can()
	l.senders, l.receivers = c.Waits()
	return l
}

// chanOf is a channel of a runtime, which must be made.
func chanOf[T any](t *testing.T, r *csp.Runtime, size int) *Chan[T] {
	t.Helper()
	c, e := Make[T](r, size)
	if c == nil || e != api.OK {
		t.Fatalf("Make of %d: %v, %d", size, c, e)
	}
	return c
}

// filled is a channel of numbers with so many of them in its buffer: 1, 2, and so on.
func filled(t *testing.T, r *csp.Runtime, size, count int) *Chan[int] {
	t.Helper()
	c := chanOf[int](t, r, size)
	for i := range count {
		sent(t, "fill", true)(c.TrySend(i + 1))
	}
	return c
}

// closed is such a channel, which is closed.
func closed(t *testing.T, r *csp.Runtime, size, count int) *Chan[int] {
	t.Helper()
	c := filled(t, r, size, count)
	answers(t, "Close", c.Close(), api.OK)
	return c
}

// sent says what a TrySend must tell that can be.
func sent(t *testing.T, what string, want bool) func(ok, can bool) {
	t.Helper()
	return func(ok, can bool) {
		t.Helper()
		if ok != want || !can {
			t.Fatalf("%s: TrySend: %v, %v, want %v, true", what, ok, can, want)
		}
	}
}

// notSent says that a TrySend can't be.
func notSent(t *testing.T, what string) func(ok, can bool) {
	t.Helper()
	return func(ok, can bool) {
		t.Helper()
		if ok || can {
			t.Fatalf("%s: TrySend: %v, %v, want false, false", what, ok, can)
		}
	}
}

// received says what a TryRecv must answer: a value and true, or nothing and false if it is told so; or that it can't be.
func received[T comparable](t *testing.T, what string, want T, told, may bool) func(v T, ok, can bool) {
	t.Helper()
	return func(v T, ok, can bool) {
		t.Helper()
		if v != want || ok != told || can != may {
			t.Fatalf("%s: TryRecv: %v, %v, %v, want %v, %v, %v", what, v, ok, can, want, told, may)
		}
	}
}

// takes says that a channel's values are these, and takes them; then none can be received, or false is told if it is closed.
func takes(t *testing.T, what string, c *Chan[int], want ...int) {
	t.Helper()
	for _, v := range want {
		received(t, what, v, true, true)(c.TryRecv())
	}
	received(t, what+", at its end", 0, false, c.Closed())(c.TryRecv())
}

// spawn is a new task, which there must be room for.
func spawn(t *testing.T, r *csp.Runtime, f func(self *csp.Task)) *csp.Task {
	t.Helper()
	task, e := r.Spawn(f)
	if e != api.OK || task == nil {
		t.Fatalf("Spawn: %v, %d", task, e)
	}
	return task
}

// within does something in a turn of a new task, at the end of the line.
func within(t *testing.T, r *csp.Runtime, do func(self *csp.Task)) *csp.Task {
	t.Helper()
	done := false
	task := spawn(t, r, func(self *csp.Task) {
		do(self)
		done = true
	})
	if !r.Step(uint64(len(r.Ready()))-1) || !done {
		t.Fatal("no turn")
	}
	return task
}

// diary is what functions that were handed in were told, in order.
type diary struct {
	lines []string
}

func (d *diary) note(form string, parts ...any) {
	d.lines = append(d.lines, fmt.Sprintf(form, parts...))
}

func (d *diary) sent(who string) func(ok bool) {
	return func(ok bool) { d.note("%s %v", who, ok) }
}

func (d *diary) got(who string) func(v int, ok bool) {
	return func(v int, ok bool) { d.note("%s %d %v", who, v, ok) }
}

func (d *diary) ticket(who string) *Ticket {
	return NewTicket(func() { d.note("%s fires", who) })
}

// reads says what stands in a diary since it was read last.
func (d *diary) reads(t *testing.T, what string, want ...string) {
	t.Helper()
	lists(t, what, d.lines, want...)
	d.lines = nil
}

// waitSend is a new ticket by which somebody waits to send at a channel.
func (d *diary) waitSend(t *testing.T, c *Chan[int], who string, v int) *Ticket {
	t.Helper()
	k := d.ticket(who)
	answers(t, who+": WaitSend", c.WaitSend(v, k, d.sent(who)), api.OK)
	return k
}

func (d *diary) waitRecv(t *testing.T, c *Chan[int], who string) *Ticket {
	t.Helper()
	k := d.ticket(who)
	answers(t, who+": WaitRecv", c.WaitRecv(k, d.got(who)), api.OK)
	return k
}

// send is a task that has parked in a Send.
func (d *diary) send(t *testing.T, c *Chan[int], who string, v int) *csp.Task {
	t.Helper()
	return within(t, c.Runtime(), func(self *csp.Task) { answers(t, who, Send(self, c, v, d.sent(who)), api.OK) })
}

// recv is a task that has parked in a Recv.
func (d *diary) recv(t *testing.T, c *Chan[int], who string) *csp.Task {
	t.Helper()
	return within(t, c.Runtime(), func(self *csp.Task) { answers(t, who, Recv(self, c, d.got(who)), api.OK) })
}

// fireElsewhere lets a ticket fire at another channel.
func fireElsewhere(t *testing.T, r *csp.Runtime, k *Ticket) {
	t.Helper()
	c := chanOf[int](t, r, 0)
	answers(t, "WaitRecv elsewhere", c.WaitRecv(k, func(int, bool) {}), api.OK)
	sent(t, "elsewhere", true)(c.TrySend(1))
}

func TestExampleOfNoBuffer(t *testing.T) {
	var d diary
	r := csp.New()
	c := chanOf[int](t, r, 0)
	spawn(t, r, func(a *csp.Task) { answers(t, "Send", Send(a, c, 5, d.sent("a")), api.OK) })
	spawn(t, r, func(b *csp.Task) { answers(t, "Recv", Recv(b, c, d.got("b")), api.OK) })
	answers(t, "a's turn", r.Step(0), true)
	stands(t, "a has parked", r, []int{1}, []int{0})
	answers(t, "a waits", lookAt(c), look{senders: 1, canRecv: true})
	answers(t, "b's turn", r.Step(0), true)
	stands(t, "a gets ready, then b", r, []int{0, 1}, nil)
	answers(t, "nobody waits", lookAt(c), look{})
	d.reads(t, "nothing is told yet")
	answers(t, "a's turn", r.Step(0), true)
	d.reads(t, "a's turn", "a true")
	answers(t, "b's turn", r.Step(0), true)
	d.reads(t, "b's turn", "b 5 true")
}

func TestExampleOfOne(t *testing.T) {
	var d diary
	r := csp.New()
	c := chanOf[int](t, r, 1)
	spawn(t, r, func(a *csp.Task) {
		answers(t, "Send 5", Send(a, c, 5, func(ok bool) {
			d.sent("a")(ok)
			answers(t, "Send 6", Send(a, c, 6, d.sent("a again")), api.OK)
		}), api.OK)
	})
	answers(t, "Step", r.Step(0), true)
	stands(t, "a has yielded", r, []int{0}, nil)
	answers(t, "Step", r.Step(0), true)
	stands(t, "a has parked", r, nil, []int{0})
	answers(t, "a waits", lookAt(c), look{len: 1, cap: 1, senders: 1, canRecv: true})
	spawn(t, r, func(b *csp.Task) { answers(t, "Recv", Recv(b, c, d.got("b")), api.OK) })
	answers(t, "Step", r.Step(0), true)
	stands(t, "a is ready", r, []int{0, 1}, nil)
	answers(t, "6 stands in the buffer", lookAt(c), look{len: 1, cap: 1, canRecv: true})
	answers(t, "Run", r.Run(nil, 9), 2)
	d.reads(t, "told", "a true", "a again true", "b 5 true")
	takes(t, "the buffer", c, 6)
}

func TestExampleOfClose(t *testing.T) {
	var d diary
	r := csp.New()
	c, full := chanOf[int](t, r, 0), chanOf[int](t, r, 1)
	d.recv(t, c, "b")
	answers(t, "Close", c.Close(), api.OK)
	answers(t, "Run", r.Run(nil, 9), 1)
	d.reads(t, "b", "b 0 false")
	sent(t, "closed", false)(c.TrySend(1))
	answers(t, "Close again", c.Close(), api.ErrClosed)
	sent(t, "full", true)(full.TrySend(6))
	answers(t, "Close", full.Close(), api.OK)
	for _, want := range []string{"b 6 true", "b 0 false", "b 0 false"} {
		d.recv(t, full, "b")
		answers(t, "Run", r.Run(nil, 9), 1)
		d.reads(t, "Recv", want)
	}
}

// P16.1: a new channel is open and empty, of each size that may be.
func TestMake(t *testing.T) {
	r, other := csp.New(), csp.New()
	for size := range 65 {
		c := chanOf[string](t, r, size)
		answers(t, fmt.Sprint(size), lookAt(c), look{cap: size, canSend: size > 0})
		answers(t, "Runtime", c.Runtime(), r)
		answers(t, "Runtime", chanOf[int](t, other, size).Runtime(), other)
	}
	a, b := chanOf[int](t, r, 1), chanOf[int](t, r, 1)
	sent(t, "a", true)(a.TrySend(1))
	answers(t, "b", lookAt(b), look{cap: 1, canSend: true})
	within(t, r, func(*csp.Task) {
		answers(t, "within a turn", lookAt(chanOf[int](t, r, 64)), look{cap: 64, canSend: true})
	})
	stands(t, "no tasks were made", r, nil, nil)
}

// P16.1: what Make refuses; that there is no runtime counts first.
func TestMakeRefused(t *testing.T) {
	r := csp.New()
	copied := *r
	for name, none := range map[string]*csp.Runtime{"nil": nil, "a zero": {}, "a copy": &copied} {
		for _, size := range []int{0, 1, 63, 64, 65, -1, math.MaxInt, math.MinInt} {
			c, e := Make[int](none, size)
			answers(t, name, e, api.ErrNil)
			answers(t, name, c, nil)
		}
	}
	for _, size := range []int{-1, -2, -64, -65, 65, 66, 128, 256, 1 << 32, math.MaxInt, math.MinInt} {
		c, e := Make[int](r, size)
		answers(t, fmt.Sprint(size), e, api.ErrArg)
		answers(t, fmt.Sprint(size), c, nil)
	}
}

// P16.2: a buffer has room for just its size, and its values come out in order, from empty to full and back, several times round.
func TestBuffer(t *testing.T) {
	for _, size := range []int{0, 1, 2, 3, 7, 63, 64} {
		c := chanOf[int](t, csp.New(), size)
		for round := range 3 {
			for i := range size {
				answers(t, "filling", lookAt(c), look{len: i, cap: size, canSend: true, canRecv: i > 0})
				sent(t, "filling", true)(c.TrySend(100*round + i))
			}
			for range 2 {
				answers(t, "full", lookAt(c), look{len: size, cap: size, canRecv: size > 0})
				notSent(t, "full")(c.TrySend(-1))
			}
			for i := range size {
				answers(t, "emptying", lookAt(c), look{len: size - i, cap: size, canSend: i > 0, canRecv: true})
				received(t, "emptying", 100*round+i, true, true)(c.TryRecv())
			}
			for range 2 {
				answers(t, "empty", lookAt(c), look{cap: size, canSend: size > 0})
				received(t, "empty", 0, false, false)(c.TryRecv())
			}
		}
	}
}

// P16.2: a buffer that is never empty nor full keeps its order; a nought is a value.
func TestHalfFull(t *testing.T) {
	for _, size := range []int{2, 3, 64} {
		c := filled(t, csp.New(), size, size/2)
		for i := range 300 {
			sent(t, "half full", true)(c.TrySend(i + 1 + size/2))
			received(t, "half full", i+1, true, true)(c.TryRecv())
			answers(t, "half full", lookAt(c), look{len: size / 2, cap: size, canSend: true, canRecv: true})
		}
	}
	c := chanOf[int](t, csp.New(), 2)
	sent(t, "a nought", true)(c.TrySend(0))
	received(t, "a nought", 0, true, true)(c.TryRecv())
	received(t, "none", 0, false, false)(c.TryRecv())
}

// P16.2: a value that is sent goes to the first receiver who waits, past the buffer; told is called ahead of fire, and each once.
func TestTrySendServes(t *testing.T) {
	for _, size := range []int{0, 1, 64} {
		var d diary
		c := chanOf[int](t, csp.New(), size)
		for _, who := range []string{"a", "b", "c"} {
			d.waitRecv(t, c, who)
		}
		for i, who := range []string{"a", "b", "c"} {
			answers(t, who, lookAt(c), look{cap: size, receivers: 3 - i, canSend: true})
			sent(t, who, true)(c.TrySend(i + 5))
			d.reads(t, who, fmt.Sprintf("%s %d true", who, i+5), who+" fires")
		}
		answers(t, "nobody waits", lookAt(c), look{cap: size, canSend: size > 0})
		if size == 0 {
			notSent(t, "nobody waits")(c.TrySend(9))
		} else {
			sent(t, "nobody waits", true)(c.TrySend(9))
			takes(t, "the buffer", c, 9)
		}
		d.reads(t, "at last")
	}
}

// P16.2: what is received is the buffer's first value, or the first sender's; that one's value goes into the buffer, behind all others.
func TestTryRecvServes(t *testing.T) {
	for _, size := range []int{0, 1, 3, 64} {
		var d diary
		c := filled(t, csp.New(), size, size)
		for i, who := range []string{"a", "b", "c"} {
			d.waitSend(t, c, who, size+1+i)
		}
		for i, who := range []string{"a", "b", "c"} {
			answers(t, who, lookAt(c), look{len: size, cap: size, senders: 3 - i, canRecv: true})
			received(t, who, i+1, true, true)(c.TryRecv())
			d.reads(t, who, who+" true", who+" fires")
		}
		answers(t, "nobody waits", lookAt(c), look{len: size, cap: size, canRecv: size > 0})
		var rest []int
		for i := range size {
			rest = append(rest, i+4)
		}
		takes(t, "the rest", c, rest...)
		d.reads(t, "at last")
	}
}

// fourOf has four wait, of whom the first, the second and the last fire elsewhere.
func fourOf(t *testing.T, r *csp.Runtime, d *diary, wait func(who string) *Ticket) {
	t.Helper()
	for _, who := range []string{"a", "b", "c", "d"} {
		if k := wait(who); who != "c" {
			fireElsewhere(t, r, k)
			d.reads(t, "elsewhere", who+" fires")
		}
	}
}

// P16.1, P16.2: who waits with a ticket that has fired is passed over, ahead of others and behind them, and counts no more.
func TestFiredReceiversArePassedOver(t *testing.T) {
	for _, size := range []int{0, 1, 64} {
		for _, asks := range []bool{false, true} {
			var d diary
			r := csp.New()
			c := chanOf[int](t, r, size)
			fourOf(t, r, &d, func(who string) *Ticket { return d.waitRecv(t, c, who) })
			if asks {
				answers(t, "one waits", lookAt(c), look{cap: size, receivers: 1, canSend: true})
			}
			sent(t, "one waits", true)(c.TrySend(7))
			d.reads(t, "one waits", "c 7 true", "c fires")
			if asks {
				answers(t, "nobody waits", lookAt(c), look{cap: size, canSend: size > 0})
			}
			if ok, can := c.TrySend(8); ok != (size > 0) || can != ok {
				t.Fatal("nobody waits", ok, can)
			}
			answers(t, "at last", c.Len(), min(size, 1))
			d.reads(t, "at last")
		}
	}
}

// P16.1, P16.2: the same for senders: the value of one whose ticket has fired is never received.
func TestFiredSendersArePassedOver(t *testing.T) {
	for _, size := range []int{0, 1, 2} {
		for _, asks := range []bool{false, true} {
			var d diary
			r := csp.New()
			c := filled(t, r, size, size)
			v := size
			fourOf(t, r, &d, func(who string) *Ticket { v++; return d.waitSend(t, c, who, v) })
			if asks {
				answers(t, "one waits", lookAt(c), look{len: size, cap: size, senders: 1, canRecv: true})
			}
			values := append([]int{1, 2}[:size:size], size+3)
			received(t, "the first", values[0], true, true)(c.TryRecv())
			d.reads(t, "one waits", "c true", "c fires")
			if asks {
				answers(t, "nobody waits", lookAt(c), look{len: size, cap: size, canRecv: size > 0})
			}
			takes(t, "the rest", c, values[1:]...)
			answers(t, "at last", lookAt(c), look{cap: size, canSend: size > 0})
			d.reads(t, "at last")
		}
	}
}

// P16.1, P16.2: with nobody but such whose tickets have fired nobody waits, and others may wait at the other side.
func TestAllHaveFired(t *testing.T) {
	for _, closes := range []bool{false, true} {
		for _, sends := range []bool{false, true} {
			var d diary
			r := csp.New()
			c := chanOf[int](t, r, 0)
			for i := range 5 {
				k := d.ticket("k")
				if sends {
					answers(t, "WaitSend", c.WaitSend(i, k, d.sent("told")), api.OK)
				} else {
					answers(t, "WaitRecv", c.WaitRecv(k, d.got("told")), api.OK)
				}
				fireElsewhere(t, r, k)
			}
			d.reads(t, "elsewhere", "k fires", "k fires", "k fires", "k fires", "k fires")
			if closes {
				answers(t, "Close", c.Close(), api.OK)
				answers(t, "closed", lookAt(c), look{closed: true, canSend: true, canRecv: true})
				d.reads(t, "Close")
				continue
			}
			notSent(t, "nobody waits")(c.TrySend(1))
			received(t, "nobody waits", 0, false, false)(c.TryRecv())
			d.waitSend(t, c, "s", 3)
			answers(t, "a sender waits", lookAt(c), look{senders: 1, canRecv: true})
			received(t, "a sender waits", 3, true, true)(c.TryRecv())
			d.waitRecv(t, c, "r")
			answers(t, "a receiver waits", lookAt(c), look{receivers: 1, canSend: true})
			d.reads(t, "served", "s true", "s fires")
		}
	}
}

// P16.2: at a closed channel a send is told false, and its value is nowhere; what is in the buffer is received, then nothing and false, for ever.
func TestTryAtClosed(t *testing.T) {
	for _, size := range []int{0, 1, 2, 64} {
		for _, count := range []int{0, 1, size / 2, size} {
			count = min(count, size)
			c := closed(t, csp.New(), size, count)
			for i := range count {
				answers(t, "closed", lookAt(c), look{len: count - i, cap: size, closed: true, canSend: true, canRecv: true})
				sent(t, "closed", false)(c.TrySend(99))
				received(t, "closed", i+1, true, true)(c.TryRecv())
			}
			for range 3 {
				answers(t, "closed, empty", lookAt(c), look{cap: size, closed: true, canSend: true, canRecv: true})
				sent(t, "closed, empty", false)(c.TrySend(99))
				received(t, "closed, empty", 0, false, true)(c.TryRecv())
			}
		}
	}
}

// P16.2, P16.5: when told is called the ticket has fired, wherever else it waits; fire is called behind it.
func TestFiresAheadOfTold(t *testing.T) {
	serves := map[string]func(c *Chan[int]){
		"TrySend": func(c *Chan[int]) { c.TrySend(3) },
		"TryRecv": func(c *Chan[int]) { c.TryRecv() },
		"Close":   func(c *Chan[int]) { c.Close() },
	}
	for name, serve := range serves {
		var order []string
		r := csp.New()
		c, other := chanOf[int](t, r, 0), chanOf[int](t, r, 0)
		var k *Ticket
		check := func(what string) {
			order = append(order, what)
			answers(t, name+": "+what, lookAt(other), look{})
			answers(t, name+": "+what, other.WaitRecv(k, func(int, bool) {}), api.ErrArg)
			answers(t, name+": "+what, other.Forget(k), 0)
		}
		k = NewTicket(func() { check("fire") })
		answers(t, "other", other.WaitRecv(k, func(int, bool) { t.Error("told twice") }), api.OK)
		answers(t, "other", other.WaitSend(1, k, func(bool) { t.Error("told twice") }), api.OK)
		if name == "TryRecv" {
			answers(t, name, c.WaitSend(2, k, func(bool) { check("told") }), api.OK)
		} else {
			answers(t, name, c.WaitRecv(k, func(int, bool) { check("told") }), api.OK)
		}
		serve(c)
		lists(t, name, order, "told", "fire")
		answers(t, name, other.Close(), api.OK)
		lists(t, name+", behind a close elsewhere", order, "told", "fire")
	}
}

// A ticket's fire may call the channel: that stands as it does behind the call which serves.
func TestFireCalls(t *testing.T) {
	r := csp.New()
	c := chanOf[int](t, r, 2)
	var seen []look
	var got []int
	asks := func() { seen = append(seen, lookAt(c)) }
	for range 2 {
		answers(t, "WaitRecv", c.WaitRecv(NewTicket(asks), func(v int, _ bool) { got = append(got, v) }), api.OK)
	}
	sent(t, "served", true)(c.TrySend(1))
	lists(t, "behind TrySend", seen, look{cap: 2, receivers: 1, canSend: true})
	again := NewTicket(func() {
		sent(t, "within fire", true)(c.TrySend(8))
		answers(t, "WaitRecv within fire", c.WaitRecv(NewTicket(asks), func(int, bool) {}), api.ErrArg)
	})
	answers(t, "WaitRecv", c.WaitRecv(again, func(v int, _ bool) { got = append(got, v) }), api.OK)
	sent(t, "served", true)(c.TrySend(2))
	sent(t, "served", true)(c.TrySend(3))
	lists(t, "got", got, 1, 2, 3)
	sent(t, "room", true)(c.TrySend(9))
	seen = nil
	full := NewTicket(func() {
		asks()
		notSent(t, "within fire")(c.TrySend(-1))
	})
	answers(t, "WaitSend", c.WaitSend(10, full, func(bool) {}), api.OK)
	received(t, "a sender waits", 8, true, true)(c.TryRecv())
	lists(t, "behind TryRecv", seen, look{len: 2, cap: 2, canRecv: true})
	taker := NewTicket(func() { received(t, "within fire", 10, true, true)(c.TryRecv()) })
	answers(t, "WaitSend", c.WaitSend(11, taker, func(bool) {}), api.OK)
	received(t, "the one ahead", 9, true, true)(c.TryRecv())
	sent(t, "room", true)(c.TrySend(12))
	seen = nil
	for range 2 {
		answers(t, "WaitSend", c.WaitSend(13, NewTicket(asks), func(bool) {}), api.OK)
	}
	answers(t, "Close", c.Close(), api.OK)
	behind := look{len: 2, cap: 2, closed: true, canSend: true, canRecv: true}
	lists(t, "behind Close", seen, behind, behind)
	received(t, "at last", 11, true, true)(c.TryRecv())
	received(t, "at last", 12, true, true)(c.TryRecv())
	received(t, "at last", 0, false, true)(c.TryRecv())
}

// A ticket's fire may let another one fire that waits further behind: that one is passed over, at a Close too.
func TestFireFires(t *testing.T) {
	for _, sends := range []bool{false, true} {
		var d diary
		r := csp.New()
		c, other := chanOf[int](t, r, 0), chanOf[int](t, r, 0)
		b := d.ticket("b")
		a := NewTicket(func() {
			d.note("a fires")
			sent(t, "within fire", true)(other.TrySend(4))
		})
		for i, k := range []*Ticket{a, b, d.ticket("c")} {
			who := string("abc"[i])
			if sends {
				answers(t, who, c.WaitSend(i, k, d.sent(who)), api.OK)
			} else {
				answers(t, who, c.WaitRecv(k, d.got(who)), api.OK)
			}
		}
		answers(t, "other", other.WaitRecv(b, d.got("b elsewhere")), api.OK)
		answers(t, "Close", c.Close(), api.OK)
		told := " 0 false"
		if sends {
			told = " false"
		}
		d.reads(t, "Close", "a"+told, "a fires", "b elsewhere 4 true", "b fires", "c"+told, "c fires")
	}
}

// calls are Send and Recv of a task.
func calls(t *testing.T) map[string]func(task *csp.Task, c *Chan[int], none bool) api.Errno {
	called := func() { t.Error("a function that was refused is called") }
	return map[string]func(task *csp.Task, c *Chan[int], none bool) api.Errno{
		"Send": func(task *csp.Task, c *Chan[int], none bool) api.Errno {
			if none {
				return Send(task, c, 9, nil)
			}
			return Send(task, c, 9, func(bool) { called() })
		},
		"Recv": func(task *csp.Task, c *Chan[int], none bool) api.Errno {
			if none {
				return Recv(task, c, nil)
			}
			return Recv(task, c, func(int, bool) { called() })
		},
	}
}

// states are channels of a runtime in which a Send or a Recv would do unlike things.
func states(t *testing.T, r *csp.Runtime, d *diary) map[string]*Chan[int] {
	senders, receivers, behind := chanOf[int](t, r, 0), chanOf[int](t, r, 0), filled(t, r, 1, 1)
	d.waitSend(t, senders, "a sender", 5)
	d.waitRecv(t, receivers, "a receiver")
	d.waitSend(t, behind, "a sender", 6)
	return map[string]*Chan[int]{
		"size 0": chanOf[int](t, r, 0), "empty": chanOf[int](t, r, 2), "half full": filled(t, r, 2, 1), "full": filled(t, r, 2, 2),
		"closed": closed(t, r, 2, 0), "closed with a value": closed(t, r, 2, 1),
		"a sender waits": senders, "a receiver waits": receivers, "a sender waits behind a buffer": behind,
	}
}

// refusedTask says that a task must be refused a Send and a Recv, at channels in all states, and nothing changes.
func refusedTask(t *testing.T, what string, task *csp.Task, of *csp.Runtime, want api.Errno) {
	t.Helper()
	var d diary
	for state, c := range states(t, of, &d) {
		for name, call := range calls(t) {
			was, running := lookAt(c), of.Running()
			ready, parked := of.Ready(), of.Parked()
			for range 2 {
				whole := fmt.Sprintf("%s, %s, %s", what, state, name)
				answers(t, whole, call(task, c, false), want)
				answers(t, whole+" of nothing", call(task, c, true), api.ErrNil)
				answers(t, whole, lookAt(c), was)
				answers(t, whole+": Running", of.Running(), running)
				stands(t, whole, of, ready, parked)
				d.reads(t, whole)
			}
		}
	}
}

// P16.3: no task, one that Spawn did not answer, no function: all first, whatever else would hold.
func TestSendOfNone(t *testing.T) {
	r := csp.New()
	within(t, r, func(self *csp.Task) {
		copied := *self
		for name, none := range map[string]*csp.Task{"nil": nil, "a zero": {}, "a copy": &copied} {
			refusedTask(t, name, none, r, api.ErrNil)
			refusedTask(t, name, none, csp.New(), api.ErrNil)
		}
		for name, none := range noChannels(t, r) {
			for call, do := range calls(t) {
				answers(t, name+": "+call, do(self, none, false), api.ErrNil)
				answers(t, name+": "+call, do(self, none, true), api.ErrNil)
				answers(t, name+": "+call, do(nil, none, false), api.ErrNil)
			}
		}
		answers(t, "the task may still say how it goes on", self.Yield(func() {}), api.OK)
		for name, none := range noChannels(t, r) {
			for call, do := range calls(t) {
				answers(t, name+": "+call, do(self, none, false), api.ErrNil)
			}
		}
	})
}

// P16.3: a task of another runtime, however it stands.
func TestSendOfAnother(t *testing.T) {
	r, other := csp.New(), csp.New()
	gone := within(t, r, func(*csp.Task) {})
	waits := within(t, r, func(self *csp.Task) { self.Park(func(int) {}) })
	fresh := spawn(t, r, func(*csp.Task) {})
	all := func(where string) {
		t.Helper()
		refusedTask(t, where+": over", gone, other, api.ErrOther)
		refusedTask(t, where+": parked", waits, other, api.ErrOther)
		refusedTask(t, where+": ready", fresh, other, api.ErrOther)
	}
	all("outside")
	within(t, r, func(self *csp.Task) {
		refusedTask(t, "running", self, other, api.ErrOther)
		all("within a turn")
		self.Yield(func() {})
		refusedTask(t, "running, has yielded", self, other, api.ErrOther)
	})
	within(t, other, func(*csp.Task) { all("within a turn of the channel's runtime") })
}

// P16.3: a task that is not running: new, ready again, parked, over; outside of a turn, and in that of another one.
func TestSendOfNotRunning(t *testing.T) {
	r := csp.New()
	c := chanOf[int](t, r, 0)
	var d diary
	gone := within(t, r, func(*csp.Task) {})
	waits := within(t, r, func(self *csp.Task) { self.Park(func(int) {}) })
	yielded := within(t, r, func(self *csp.Task) { self.Yield(func() {}) })
	fresh := spawn(t, r, func(*csp.Task) {})
	recv := d.recv(t, c, "r")
	all := func(where string) {
		t.Helper()
		for name, task := range map[string]*csp.Task{"over": gone, "parked": waits, "ready again": yielded, "new": fresh, "in a Recv": recv} {
			refusedTask(t, where+": "+name, task, r, api.ErrOver)
		}
	}
	all("outside")
	within(t, r, func(*csp.Task) { all("in another one's turn") })
	answers(t, "Wake", waits.Wake(0), api.OK)
	all("woken")
}

// P16.3: a task that has said in this turn how it goes on, in each way.
func TestSendOfBusy(t *testing.T) {
	var d diary
	r := csp.New()
	says := map[string]func(self *csp.Task) api.Errno{
		"Yield":           func(self *csp.Task) api.Errno { return self.Yield(func() {}) },
		"Park":            func(self *csp.Task) api.Errno { return self.Park(func(int) {}) },
		"Park and Wake":   func(self *csp.Task) api.Errno { return self.Park(func(int) {}) + self.Wake(3) },
		"Send now":        func(self *csp.Task) api.Errno { return Send(self, chanOf[int](t, r, 1), 1, func(bool) {}) },
		"Send that waits": func(self *csp.Task) api.Errno { return Send(self, chanOf[int](t, r, 0), 1, func(bool) {}) },
		"Recv now":        func(self *csp.Task) api.Errno { return Recv(self, filled(t, r, 1, 1), func(int, bool) {}) },
		"Recv that waits": func(self *csp.Task) api.Errno { return Recv(self, chanOf[int](t, r, 1), func(int, bool) {}) },
		"Send that is served": func(self *csp.Task) api.Errno {
			c := chanOf[int](t, r, 0)
			e := Send(self, c, 1, func(bool) {})
			received(t, "served", 1, true, true)(c.TryRecv())
			return e
		},
	}
	for name, say := range says {
		within(t, r, func(self *csp.Task) {
			answers(t, name, say(self), api.OK)
			refusedTask(t, name, self, r, api.ErrBusy)
			answers(t, name+": Yield", self.Yield(func() {}), api.ErrBusy)
		})
	}
	d.reads(t, "nothing is told")
}

// P16.3: whoever is served gets ready ahead of the one who serves, behind all that are ready already.
func TestServedGetsReadyFirst(t *testing.T) {
	for _, size := range []int{0, 1, 2} {
		var d diary
		r := csp.New()
		c := chanOf[int](t, r, size)
		full := filled(t, r, size, size)
		d.recv(t, c, "a")
		d.send(t, full, "b", 50)
		spawn(t, r, func(*csp.Task) {})
		d.send(t, c, "c", 7)
		stands(t, "a Send", r, []int{2, 0, 3}, []int{1})
		d.recv(t, full, "d")
		stands(t, "a Recv", r, []int{2, 0, 3, 1, 4}, nil)
		answers(t, "Run", r.Run(nil, 99), 5)
		d.reads(t, "told", "a 7 true", "c true", "b true", fmt.Sprintf("d %d true", []int{50, 1, 1}[size]))
	}
}

// P16.3: a ticket of somebody else is told, and fires, within the turn of the one who serves, and whoever it wakes gets ready first.
func TestTicketServedByTask(t *testing.T) {
	for _, sends := range []bool{false, true} {
		var d diary
		r := csp.New()
		c := chanOf[int](t, r, 0)
		sleeper := within(t, r, func(self *csp.Task) { self.Park(func(why int) { d.note("woken %d", why) }) })
		k := NewTicket(func() {
			d.note("fires")
			sleeper.Wake(3)
			stands(t, "within fire", r, []int{0}, nil)
		})
		if sends {
			answers(t, "WaitRecv", c.WaitRecv(k, d.got("told")), api.OK)
			d.send(t, c, "task", 5)
			d.reads(t, "within the turn", "told 5 true", "fires")
		} else {
			answers(t, "WaitSend", c.WaitSend(6, k, d.sent("told")), api.OK)
			d.recv(t, c, "task")
			d.reads(t, "within the turn", "told true", "fires")
		}
		stands(t, "behind the turn", r, []int{0, 1}, nil)
		answers(t, "Run", r.Run(nil, 9), 2)
		d.reads(t, "turns", "woken 3", map[bool]string{true: "task true", false: "task 6 true"}[sends])
	}
}

// P16.3: what a Send and a Recv do in each state: what then is told, and how many values are in the buffer; or the task waits. A then is called in the task's next turn, once, and not ahead of it.
func TestThenOfNow(t *testing.T) {
	const waits = "it waits"
	for state, want := range map[string]struct {
		send    string
		sendLen int
		recv    string
		recvLen int
	}{
		"size 0":                         {waits, 0, waits, 0},
		"empty":                          {"a true", 1, waits, 0},
		"half full":                      {"a true", 2, "a 1 true", 0},
		"full":                           {waits, 2, "a 1 true", 1},
		"closed":                         {"a false", 0, "a 0 false", 0},
		"closed with a value":            {"a false", 1, "a 1 true", 0},
		"a sender waits":                 {waits, 0, "a 5 true", 0},
		"a receiver waits":               {"a true", 0, waits, 0},
		"a sender waits behind a buffer": {waits, 1, "a 1 true", 1},
	} {
		for name, told := range map[string]string{"send": want.send, "recv": want.recv} {
			var d, other diary
			r := csp.New()
			c := states(t, r, &other)[state]
			count := want.recvLen
			if name == "send" {
				count = want.sendLen
				d.send(t, c, "a", 77)
			} else {
				d.recv(t, c, "a")
			}
			what := state + ", " + name
			d.reads(t, what+": within the turn")
			answers(t, what+": Len", c.Len(), count)
			if told == waits {
				stands(t, what, r, nil, []int{0})
				continue
			}
			stands(t, what, r, []int{0}, nil)
			answers(t, what+": its next turn", r.Step(0), true)
			d.reads(t, what+": its next turn", told)
			answers(t, what+": it is over", r.Step(0), false)
			d.reads(t, what+": once")
		}
	}
}

// P16.3: of a Send and a Recv that wait, then is called in the turn behind their being served, whoever serves: another task, a TrySend or TryRecv, a Close.
func TestThenOfServed(t *testing.T) {
	for _, by := range []string{"task", "try", "close"} {
		for _, sends := range []bool{false, true} {
			var d, other diary
			r := csp.New()
			c := chanOf[int](t, r, 0)
			want := "a true"
			if sends {
				d.send(t, c, "a", 4)
			} else {
				d.recv(t, c, "a")
				want = "a 8 true"
			}
			stands(t, by, r, nil, []int{0})
			answers(t, by+": nobody is ready", r.Step(0), false)
			switch {
			case by == "close":
				answers(t, by, c.Close(), api.OK)
				want = map[bool]string{true: "a false", false: "a 0 false"}[sends]
			case by == "try" && sends:
				received(t, by, 4, true, true)(c.TryRecv())
			case by == "try":
				sent(t, by, true)(c.TrySend(8))
			case sends:
				other.recv(t, c, "other")
			default:
				other.send(t, c, "other", 8)
			}
			d.reads(t, by+": not yet")
			answers(t, by+": the first who is ready", r.Ready()[0], 0)
			answers(t, by, r.Step(0), true)
			d.reads(t, by, want)
			r.Run(nil, 9)
			d.reads(t, by+": once")
			answers(t, by, lookAt(c), look{closed: by == "close", canSend: by == "close", canRecv: by == "close"})
		}
	}
}

// P16.3: in the turn that calls then the task may go on, at the same channel too, and is over if it doesn't.
func TestThenGoesOn(t *testing.T) {
	var d diary
	r := csp.New()
	c := chanOf[int](t, r, 1)
	var task *csp.Task
	task = spawn(t, r, func(self *csp.Task) {
		Send(self, c, 1, func(ok bool) {
			d.note("sent %v, running %v", ok, r.Running())
			answers(t, "Recv", Recv(self, c, func(v int, ok bool) {
				d.note("got %d %v", v, ok)
				answers(t, "Recv", Recv(self, c, d.got("last")), api.OK)
			}), api.OK)
		})
	})
	answers(t, "Run", r.Run(nil, 99), 3)
	d.reads(t, "turns", "sent true, running true", "got 1 true")
	stands(t, "it waits", r, nil, []int{0})
	sent(t, "it waits", true)(c.TrySend(2))
	answers(t, "Over", task.Over(), false)
	answers(t, "Run", r.Run(nil, 99), 1)
	d.reads(t, "the last turn", "last 2 true")
	answers(t, "Over", task.Over(), true)
}

// P16.3: those who wait are served in the order in which they came, tasks and tickets alike.
func TestWaitersInOrder(t *testing.T) {
	var d diary
	r := csp.New()
	c := filled(t, r, 1, 1)
	d.send(t, c, "a", 2)
	d.waitSend(t, c, "b", 3)
	d.send(t, c, "c", 4)
	for i := range 4 {
		answers(t, "who waits", lookAt(c), look{len: 1, cap: 1, senders: max(0, 3-i), canRecv: true})
		received(t, "TryRecv", i+1, true, true)(c.TryRecv())
		if i < 3 {
			r.Run(nil, 9)
			d.reads(t, "served", [][]string{{"a true"}, {"b true", "b fires"}, {"c true"}}[i]...)
		}
	}
	d.recv(t, c, "a")
	d.waitRecv(t, c, "b")
	d.recv(t, c, "c")
	for i := range 3 {
		answers(t, "who waits", lookAt(c), look{cap: 1, receivers: 3 - i, canSend: true})
		sent(t, "TrySend", true)(c.TrySend(i))
		r.Run(nil, 9)
		d.reads(t, "served", [][]string{{"a 0 true"}, {"b 1 true", "b fires"}, {"c 2 true"}}[i]...)
	}
}

// P16.3: who is woken by somebody else waits on, in its place: then is called when it was served, even if that is ahead of its turn.
func TestWokenByAnother(t *testing.T) {
	var d diary
	r := csp.New()
	c := chanOf[int](t, r, 0)
	a := d.recv(t, c, "a")
	d.recv(t, c, "b")
	for range 3 {
		answers(t, "Wake", a.Wake(5), api.OK)
		stands(t, "woken", r, []int{0}, []int{1})
		answers(t, "woken", lookAt(c), look{receivers: 2, canSend: true})
		answers(t, "Step", r.Step(0), true)
		stands(t, "it has parked again", r, nil, []int{0, 1})
		answers(t, "it waits on", lookAt(c), look{receivers: 2, canSend: true})
		d.reads(t, "nothing is told")
	}
	answers(t, "Wake", a.Wake(5), api.OK)
	sent(t, "woken", true)(c.TrySend(8))
	stands(t, "served, ready already", r, []int{0}, []int{1})
	sent(t, "the other", true)(c.TrySend(9))
	stands(t, "the other", r, []int{0, 1}, nil)
	answers(t, "Run", r.Run(nil, 9), 2)
	d.reads(t, "told", "a 8 true", "b 9 true")
	answers(t, "Over", a.Over(), true)
}

// P16.4: a Close with nobody there.
func TestCloseNone(t *testing.T) {
	for _, size := range []int{0, 1, 2, 64} {
		for count := range size + 1 {
			c := filled(t, csp.New(), size, count)
			answers(t, "Close", c.Close(), api.OK)
			for range 3 {
				answers(t, "closed", lookAt(c), look{len: count, cap: size, closed: true, canSend: true, canRecv: true})
				answers(t, "Close again", c.Close(), api.ErrClosed)
			}
		}
	}
}

// P16.4: all who wait are served, in their order, once; a sender's value is lost, what is in the buffer is not.
func TestCloseServes(t *testing.T) {
	for _, count := range []int{1, 2, 5} {
		for _, size := range []int{0, 1, 3} {
			var d diary
			c, full := chanOf[int](t, csp.New(), size), filled(t, csp.New(), size, size)
			var got, went []string
			for i := range count {
				who := fmt.Sprint("w", i)
				d.waitRecv(t, c, who)
				d.waitSend(t, full, who, 100+i)
				got, went = append(got, who+" 0 false", who+" fires"), append(went, who+" false", who+" fires")
			}
			answers(t, "Close", c.Close(), api.OK)
			d.reads(t, "receivers", got...)
			answers(t, "Close", full.Close(), api.OK)
			d.reads(t, "senders", went...)
			answers(t, "receivers", lookAt(c), look{cap: size, closed: true, canSend: true, canRecv: true})
			answers(t, "senders", lookAt(full), look{len: size, cap: size, closed: true, canSend: true, canRecv: true})
			takes(t, "the buffer", full, []int{1, 2, 3}[:size]...)
			answers(t, "Close again", full.Close(), api.ErrClosed)
			d.reads(t, "at last")
		}
	}
}

// P16.4: tasks that wait get ready in their order; a Close within a turn serves them within it.
func TestCloseServesTasks(t *testing.T) {
	for _, sends := range []bool{false, true} {
		var d diary
		r := csp.New()
		c := filled(t, r, 1, map[bool]int{true: 1}[sends])
		for _, who := range []string{"a", "b", "c"} {
			if sends {
				d.send(t, c, who, 9)
			} else {
				d.recv(t, c, who)
			}
		}
		within(t, r, func(self *csp.Task) {
			answers(t, "Close", c.Close(), api.OK)
			stands(t, "within the turn", r, []int{0, 1, 2}, nil)
			answers(t, "Recv", Recv(self, c, d.got("d")), api.OK)
			stands(t, "within the turn", r, []int{0, 1, 2, 3}, nil)
		})
		answers(t, "Run", r.Run(nil, 99), 4)
		if sends {
			d.reads(t, "told", "a false", "b false", "c false", "d 1 true")
		} else {
			d.reads(t, "told", "a 0 false", "b 0 false", "c 0 false", "d 0 false")
		}
	}
}

// P16.4, P16.5: of those who wait with one ticket at both sides the first receiver is served, and nobody else.
func TestCloseBothSides(t *testing.T) {
	for _, row := range []string{"sr", "rs", "ssrr", "rsrs"} {
		var d diary
		c := chanOf[int](t, csp.New(), 0)
		k := d.ticket("k")
		for i, side := range row {
			if side == 's' {
				answers(t, row, c.WaitSend(i, k, d.sent("s")), api.OK)
			} else {
				answers(t, row, c.WaitRecv(k, d.got(fmt.Sprint("r", i))), api.OK)
			}
		}
		answers(t, row, lookAt(c), look{senders: len(row) / 2, receivers: len(row) / 2, canSend: true, canRecv: true})
		answers(t, row, c.Close(), api.OK)
		d.reads(t, row, map[string]string{"sr": "r1 0 false", "rs": "r0 0 false", "ssrr": "r2 0 false", "rsrs": "r0 0 false"}[row], "k fires")
		answers(t, row, lookAt(c), look{closed: true, canSend: true, canRecv: true})
	}
}

// P16.5: no ticket of no function; two tickets of one function are two.
func TestNewTicket(t *testing.T) {
	answers(t, "no function", NewTicket(nil), nil)
	fires := 0
	fire := func() { fires++ }
	a, b := NewTicket(fire), NewTicket(fire)
	answers(t, "two", a != nil && b != nil && a != b, true)
	c := chanOf[int](t, csp.New(), 0)
	for _, k := range []*Ticket{a, b} {
		answers(t, "WaitRecv", c.WaitRecv(k, func(int, bool) {}), api.OK)
	}
	answers(t, "fires", fires, 0)
	for i := range 2 {
		sent(t, "served", true)(c.TrySend(1))
		answers(t, "fires", fires, i+1)
	}
}

// noTickets are none: no ticket, such as NewTicket did not answer, copies of one.
func noTickets(t *testing.T) map[string]*Ticket {
	k := NewTicket(func() { t.Error("a ticket that was copied fires") })
	copied, laid := *k, NewTicket(func() { t.Error("a ticket that was laid over fires") })
	*laid = *k
	return map[string]*Ticket{"nil": nil, "of no function": NewTicket(nil), "a zero": {}, "a copy": &copied, "a copy laid over one": laid}
}

// noChannels are none: no channel, such as Make did not answer, copies of one.
func noChannels(t *testing.T, r *csp.Runtime) map[string]*Chan[int] {
	c, laid := filled(t, r, 2, 1), filled(t, r, 2, 2)
	copied := *c
	*laid = *c
	gone := *closed(t, r, 2, 1)
	return map[string]*Chan[int]{"nil": nil, "a zero": {}, "a copy": &copied, "a copy of a closed one": &gone, "a copy laid over one": laid}
}

// refusedWaits says that a WaitSend and a WaitRecv must be refused, and nothing changes.
func refusedWaits(t *testing.T, what string, c *Chan[int], k *Ticket, send, recv api.Errno) {
	t.Helper()
	was := lookAt(c)
	for range 2 {
		if send != api.OK {
			answers(t, what+": WaitSend", c.WaitSend(3, k, func(bool) { t.Error(what + ": told") }), send)
			answers(t, what, lookAt(c), was)
		}
		if recv != api.OK {
			answers(t, what+": WaitRecv", c.WaitRecv(k, func(int, bool) { t.Error(what + ": told") }), recv)
			answers(t, what, lookAt(c), was)
		}
		answers(t, what+": WaitSend of nothing", c.WaitSend(3, k, nil), api.ErrNil)
		answers(t, what+": WaitRecv of nothing", c.WaitRecv(k, nil), api.ErrNil)
		answers(t, what, lookAt(c), was)
	}
}

// P16.5: no channel, no ticket, no function; that counts first.
func TestWaitOfNone(t *testing.T) {
	var d diary
	r := csp.New()
	fired := d.ticket("k")
	fireElsewhere(t, r, fired)
	for name, c := range noChannels(t, r) {
		refusedWaits(t, name, c, d.ticket("k"), api.ErrNil, api.ErrNil)
		refusedWaits(t, name, c, fired, api.ErrNil, api.ErrNil)
		refusedWaits(t, name, c, nil, api.ErrNil, api.ErrNil)
	}
	for name, k := range noTickets(t) {
		for state, c := range states(t, r, &d) {
			refusedWaits(t, name+", "+state, c, k, api.ErrNil, api.ErrNil)
		}
	}
}

// P16.5: where it can be sent, or received, now, nobody waits for it; with a ticket that has fired nobody waits anywhere.
func TestWaitRefused(t *testing.T) {
	var d diary
	r := csp.New()
	for state, c := range states(t, r, &d) {
		can, may := c.Can()
		send, recv := api.OK, api.OK
		if can {
			send = api.ErrArg
		}
		if may {
			recv = api.ErrArg
		}
		k := d.ticket("k")
		refusedWaits(t, state, c, k, send, recv)
		fireElsewhere(t, r, k)
		refusedWaits(t, state+", fired", c, k, api.ErrArg, api.ErrArg)
	}
	for _, who := range d.lines {
		answers(t, "nobody is told", who, "k fires")
	}
}

// P16.5: a ticket that was refused has not fired: it can wait elsewhere.
func TestRefusedTicketIsFree(t *testing.T) {
	var d diary
	r := csp.New()
	c, k := chanOf[int](t, r, 0), d.ticket("k")
	refusedWaits(t, "closed", closed(t, r, 1, 0), k, api.ErrArg, api.ErrArg)
	refusedWaits(t, "half full", filled(t, r, 2, 1), k, api.ErrArg, api.ErrArg)
	answers(t, "WaitSend", c.WaitSend(4, k, d.sent("k")), api.OK)
	received(t, "it waits", 4, true, true)(c.TryRecv())
	d.reads(t, "told", "k true", "k fires")
}

// P16.5: with one ticket somebody may wait at both sides, and does not meet itself; anybody else is met by it, and by its own kind alone is joined.
func TestSameTicket(t *testing.T) {
	for _, first := range []string{"send", "recv"} {
		for _, then := range []string{"TrySend", "TryRecv", "Close", "Send", "Recv"} {
			var d diary
			r := csp.New()
			c := chanOf[int](t, r, 0)
			k := d.ticket("k")
			if first == "recv" {
				answers(t, "WaitRecv", c.WaitRecv(k, d.got("r")), api.OK)
			}
			answers(t, "WaitSend", c.WaitSend(5, k, d.sent("s")), api.OK)
			if first == "send" {
				answers(t, "WaitRecv", c.WaitRecv(k, d.got("r")), api.OK)
			}
			answers(t, first, lookAt(c), look{senders: 1, receivers: 1, canSend: true, canRecv: true})
			d.reads(t, "it does not meet itself")
			refusedWaits(t, "another ticket", c, d.ticket("other"), api.ErrArg, api.ErrArg)
			want := []string{"r 7 true", "k fires"}
			switch then {
			case "TrySend":
				sent(t, then, true)(c.TrySend(7))
			case "TryRecv":
				received(t, then, 5, true, true)(c.TryRecv())
				want[0] = "s true"
			case "Close":
				answers(t, then, c.Close(), api.OK)
				want[0] = "r 0 false"
			case "Send":
				d.send(t, c, "task", 7)
			case "Recv":
				d.recv(t, c, "task")
				want[0] = "s true"
			}
			d.reads(t, then, want...)
			over := then == "Close"
			answers(t, then, lookAt(c), look{closed: over, canSend: over, canRecv: over})
		}
	}
}

// P16.5: others at the other side are met, whether they came ahead of those with the same ticket or behind them.
func TestSameTicketAmongOthers(t *testing.T) {
	for _, ahead := range []bool{true, false} {
		for _, sends := range []bool{true, false} {
			var d diary
			c := chanOf[int](t, csp.New(), 0)
			k := d.ticket("k")
			wait := func(k *Ticket, send bool) api.Errno {
				if send {
					return c.WaitSend(1, k, d.sent("s"))
				}
				return c.WaitRecv(k, d.got("r"))
			}
			other := d.ticket("other")
			tickets := []*Ticket{k, other}
			if ahead {
				tickets = []*Ticket{other, k}
			}
			for _, k := range tickets {
				answers(t, "the one side", wait(k, sends), api.OK)
			}
			answers(t, "the other side", wait(k, !sends), api.ErrArg)
			answers(t, "Forget", c.Forget(other), 1)
			answers(t, "the other side, alone", wait(k, !sends), api.OK)
			answers(t, "both sides", lookAt(c), look{senders: 1, receivers: 1, canSend: true, canRecv: true})
			d.reads(t, "nothing is told")
		}
	}
}

// P16.5: who has fired does not stand in the way of those with the same ticket.
func TestSameTicketBehindFired(t *testing.T) {
	var d diary
	r := csp.New()
	c := chanOf[int](t, r, 0)
	k := d.ticket("k")
	for i := range 3 {
		spent := d.waitRecv(t, c, "spent")
		if i == 1 {
			answers(t, "WaitRecv", c.WaitRecv(k, d.got("r")), api.OK)
		}
		fireElsewhere(t, r, spent)
	}
	answers(t, "WaitSend", c.WaitSend(2, k, d.sent("s")), api.OK)
	answers(t, "both sides", lookAt(c), look{senders: 1, receivers: 1, canSend: true, canRecv: true})
}

// P16.5: with a buffer the same ticket is no help: there is room, or a value.
func TestSameTicketAtBuffer(t *testing.T) {
	var d diary
	r := csp.New()
	empty, full := chanOf[int](t, r, 1), filled(t, r, 1, 1)
	k := d.ticket("k")
	answers(t, "empty", empty.WaitRecv(k, d.got("r")), api.OK)
	refusedWaits(t, "there is room", empty, k, api.ErrArg, api.OK)
	answers(t, "full", full.WaitSend(2, k, d.sent("s")), api.OK)
	refusedWaits(t, "there is a value", full, k, api.OK, api.ErrArg)
	sent(t, "empty", true)(empty.TrySend(3))
	d.reads(t, "the first", "r 3 true", "k fires")
	takes(t, "the value of who has fired is not received", full, 1)
}

// P16.5: twice in one line with one ticket: two wait, the first one is served, the other one is passed over.
func TestTwiceInOneLine(t *testing.T) {
	for _, sends := range []bool{false, true} {
		for _, size := range []int{0, 1} {
			var d diary
			c := filled(t, csp.New(), size, map[bool]int{true: size}[sends])
			count := c.Len()
			k := d.ticket("k")
			for i := range 2 {
				if sends {
					answers(t, "WaitSend", c.WaitSend(10+i, k, d.sent(fmt.Sprint("s", i))), api.OK)
				} else {
					answers(t, "WaitRecv", c.WaitRecv(k, d.got(fmt.Sprint("r", i))), api.OK)
				}
			}
			if sends {
				d.waitSend(t, c, "other", 20)
				answers(t, "three wait", lookAt(c), look{len: count, cap: size, senders: 3, canRecv: true})
				values := append([]int{1}[:size:size], 10, 20)
				takes(t, "two of three", c, values...)
				d.reads(t, "told", "s0 true", "k fires", "other true", "other fires")
				continue
			}
			d.waitRecv(t, c, "other")
			answers(t, "three wait", lookAt(c), look{cap: size, receivers: 3, canSend: true})
			sent(t, "the first", true)(c.TrySend(5))
			answers(t, "one waits", lookAt(c), look{cap: size, receivers: 1, canSend: true})
			sent(t, "the last", true)(c.TrySend(6))
			answers(t, "nobody waits", lookAt(c), look{cap: size, canSend: size > 0})
			d.reads(t, "told", "r0 5 true", "k fires", "other 6 true", "other fires")
		}
	}
}

// P16.5: Forget takes out those who wait with a ticket, wherever they stand in both lines, and nobody else; it may wait again then.
func TestForget(t *testing.T) {
	for _, sends := range []bool{false, true} {
		for mask := range 1 << 6 {
			var d diary
			c := chanOf[int](t, csp.New(), 0)
			k := d.ticket("k")
			count := 0
			var order []string
			for i := range 6 {
				who, mine := fmt.Sprint("w", i), k
				if mask>>i&1 == 0 {
					mine = d.ticket(who)
					order = append(order, who)
				} else {
					count++
				}
				if sends {
					answers(t, who, c.WaitSend(i, mine, d.sent(who)), api.OK)
				} else {
					answers(t, who, c.WaitRecv(mine, d.got(who)), api.OK)
				}
			}
			answers(t, "Forget of one who does not wait", c.Forget(d.ticket("x")), 0)
			answers(t, "Forget", c.Forget(k), count)
			answers(t, "Forget again", c.Forget(k), 0)
			senders, receivers := c.Waits()
			answers(t, "Waits", senders+receivers, 6-count)
			for _, who := range order {
				if sends {
					received(t, who, int(who[1]-'0'), true, true)(c.TryRecv())
					d.reads(t, who, who+" true", who+" fires")
				} else {
					sent(t, who, true)(c.TrySend(7))
					d.reads(t, who, who+" 7 true", who+" fires")
				}
			}
			answers(t, "nobody waits", lookAt(c), look{})
			answers(t, "k waits again", c.WaitRecv(k, d.got("k")), api.OK)
			sent(t, "k waits again", true)(c.TrySend(8))
			d.reads(t, "k waits again", "k 8 true", "k fires")
		}
	}
}

// P16.5: Forget of both lines at once; of a ticket that waits elsewhere too, which goes on waiting there.
func TestForgetBothLines(t *testing.T) {
	var d diary
	r := csp.New()
	c, other := chanOf[int](t, r, 0), chanOf[int](t, r, 0)
	k := d.ticket("k")
	answers(t, "elsewhere", other.WaitRecv(k, d.got("elsewhere")), api.OK)
	for range 3 {
		answers(t, "WaitSend", c.WaitSend(1, k, d.sent("s")), api.OK)
		answers(t, "WaitRecv", c.WaitRecv(k, d.got("r")), api.OK)
		answers(t, "WaitRecv", c.WaitRecv(k, d.got("r")), api.OK)
		answers(t, "Forget", c.Forget(k), 3)
		answers(t, "nobody waits", lookAt(c), look{})
		notSent(t, "nobody waits")(c.TrySend(1))
		received(t, "nobody waits", 0, false, false)(c.TryRecv())
	}
	answers(t, "elsewhere", lookAt(other), look{receivers: 1, canSend: true})
	sent(t, "elsewhere", true)(other.TrySend(2))
	d.reads(t, "elsewhere", "elsewhere 2 true", "k fires")
}

// P16.5: Forget of a ticket that has fired counts nobody, whether it fired here or elsewhere, and whether or not anything was asked in between.
func TestForgetFired(t *testing.T) {
	for _, asks := range []bool{false, true} {
		var d diary
		r := csp.New()
		c := chanOf[int](t, r, 0)
		k := d.ticket("k")
		for range 3 {
			answers(t, "WaitRecv", c.WaitRecv(k, d.got("k")), api.OK)
		}
		d.waitRecv(t, c, "other")
		if asks {
			fireElsewhere(t, r, k)
			d.reads(t, "elsewhere", "k fires")
			answers(t, "one waits", lookAt(c), look{receivers: 1, canSend: true})
		} else {
			sent(t, "the first", true)(c.TrySend(4))
			d.reads(t, "the first", "k 4 true", "k fires")
		}
		for range 2 {
			answers(t, "Forget", c.Forget(k), 0)
		}
		answers(t, "one waits", lookAt(c), look{receivers: 1, canSend: true})
		answers(t, "Close", c.Close(), api.OK)
		d.reads(t, "Close", "other 0 false", "other fires")
		answers(t, "Forget at a closed one", c.Forget(k)+c.Forget(d.ticket("x")), 0)
	}
}

// P16.5: Forget of no ticket takes nobody out, though tickets like it wait.
func TestForgetNone(t *testing.T) {
	var d diary
	r := csp.New()
	c := chanOf[int](t, r, 0)
	k := d.waitRecv(t, c, "k")
	copied := *k
	d.recv(t, c, "task")
	for name, none := range noTickets(t) {
		answers(t, name, c.Forget(none), 0)
	}
	answers(t, "a copy of one who waits", c.Forget(&copied), 0)
	answers(t, "two wait", lookAt(c), look{receivers: 2, canSend: true})
	for name, none := range noChannels(t, r) {
		answers(t, name, none.Forget(k), 0)
	}
	answers(t, "it waits", c.Forget(k), 1)
}

// R5: no channel, and such as Make did not answer: each call answers zeros, or ErrNil.
func TestNoChannel(t *testing.T) {
	var d diary
	r := csp.New()
	for name, c := range noChannels(t, r) {
		for range 2 {
			answers(t, name, lookAt(c), look{})
			answers(t, name+": Runtime", c.Runtime(), nil)
			notSent(t, name)(c.TrySend(1))
			received(t, name, 0, false, false)(c.TryRecv())
			answers(t, name+": Close", c.Close(), api.ErrNil)
			answers(t, name+": Forget", c.Forget(d.ticket("k")), 0)
			answers(t, name+": Forget", c.Forget(nil), 0)
		}
	}
	var field struct{ c Chan[string] }
	answers(t, "a field", lookAt(&field.c), look{})
	answers(t, "a field", field.c.WaitRecv(d.ticket("k"), func(string, bool) {}), api.ErrNil)
	stands(t, "no turns", r, nil, nil)
}

// R5: a copy of a channel leaves the first as it was, with those who wait.
func TestCopiedAsValue(t *testing.T) {
	var d diary
	r := csp.New()
	c := filled(t, r, 1, 1)
	d.waitSend(t, c, "w", 2)
	copied := *c
	received(t, "a copy", 0, false, false)(copied.TryRecv())
	answers(t, "a copy", copied.Close(), api.ErrNil)
	answers(t, "the first", lookAt(c), look{len: 1, cap: 1, senders: 1, canRecv: true})
	takes(t, "the first", c, 1, 2)
	answers(t, "Close", c.Close(), api.OK)
	answers(t, "a copy", copied.Closed(), false)
	d.reads(t, "told", "w true", "w fires")
}

// Channels may carry anything; what is behind a pointer, a list or a map is shared.
func TestKinds(t *testing.T) {
	r := csp.New()
	n := 7
	pointers, things, nobody := chanOf[*int](t, r, 1), chanOf[any](t, r, 2), chanOf[struct{}](t, r, 1)
	pointers.TrySend(&n)
	received(t, "a pointer", &n, true, true)(pointers.TryRecv())
	things.TrySend(nil)
	things.TrySend("x")
	received[any](t, "nothing at all", nil, true, true)(things.TryRecv())
	received[any](t, "a text", "x", true, true)(things.TryRecv())
	received[any](t, "none", nil, false, false)(things.TryRecv())
	nobody.TrySend(struct{}{})
	received(t, "no value", struct{}{}, true, true)(nobody.TryRecv())
	carried := chanOf[*Chan[int]](t, r, 1)
	carried.TrySend(chanOf[int](t, r, 3))
	c, _, _ := carried.TryRecv()
	answers(t, "a channel", lookAt(c), look{cap: 3, canSend: true})
	floats := chanOf[float64](t, r, 1)
	floats.TrySend(math.NaN())
	f, ok, _ := floats.TryRecv()
	answers(t, "a NaN", ok && f != f, true)
	bytes := chanOf[[]byte](t, r, 1)
	list := []byte{1, 2, 3}
	bytes.TrySend(list[:2])
	list[0] = 9
	b, _, _ := bytes.TryRecv()
	lists(t, "a list", b, 9, 2)
	answers(t, "it is shared", &b[0] == &list[0], true)
}

// face are the calls that a type has.
func face(of any) []string {
	var calls []string
	kind := reflect.TypeOf(of)
	for i := range kind.NumMethod() {
		calls = append(calls, kind.Method(i).Name)
	}
	return calls
}

// Channels and tickets have the chapter's calls alone, and no field that another package could set.
func TestFace(t *testing.T) {
	lists(t, "a channel's calls", face(&Chan[int]{}), "Can", "Cap", "Close", "Closed", "Forget", "Len", "Runtime", "TryRecv", "TrySend", "WaitRecv", "WaitSend", "Waits")
	lists(t, "a ticket's calls", face(&Ticket{}))
	for _, kind := range []reflect.Type{reflect.TypeOf(Chan[int]{}), reflect.TypeOf(Ticket{})} {
		for i := range kind.NumField() {
			answers(t, kind.Field(i).Name, kind.Field(i).IsExported(), false)
		}
	}
}
