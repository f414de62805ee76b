package chans

import (
	"fmt"
	"runtime"
	"slices"
	"testing"
	"weak"

	"conduit/api"
	"conduit/csp"
)

// traffic is what tasks send at a channel and receive from it: by each sender what was told true and what was told false, by each receiver what it received, and how often it was told false.
type traffic[T comparable] struct {
	runtime *csp.Runtime
	channel *Chan[T]
	sent    [][]T
	lost    [][]T
	got     [][]T
	ends    []int
}

func newTraffic[T comparable](t *testing.T, size int) *traffic[T] {
	t.Helper()
	r := csp.New()
	return &traffic[T]{runtime: r, channel: chanOf[T](t, r, size)}
}

// sender is a task that sends values, one by one, then does what is last.
func (f *traffic[T]) sender(t *testing.T, values []T, last func()) {
	t.Helper()
	no := len(f.sent)
	f.sent, f.lost = append(f.sent, nil), append(f.lost, nil)
	var next func(self *csp.Task, i int)
	next = func(self *csp.Task, i int) {
		if i == len(values) {
			last()
			return
		}
		e := Send(self, f.channel, values[i], func(ok bool) {
			if ok {
				f.sent[no] = append(f.sent[no], values[i])
			} else {
				f.lost[no] = append(f.lost[no], values[i])
			}
			next(self, i+1)
		})
		answers(t, "Send", e, api.OK)
	}
	spawn(t, f.runtime, func(self *csp.Task) { next(self, 0) })
}

// receiver is a task that receives till it is told false.
func (f *traffic[T]) receiver(t *testing.T) {
	t.Helper()
	no := len(f.got)
	f.got, f.ends = append(f.got, nil), append(f.ends, 0)
	var next func(self *csp.Task)
	next = func(self *csp.Task) {
		e := Recv(self, f.channel, func(v T, ok bool) {
			if !ok {
				f.ends[no]++
				return
			}
			f.got[no] = append(f.got[no], v)
			next(self)
		})
		answers(t, "Recv", e, api.OK)
	}
	spawn(t, f.runtime, next)
}

// right says that what was received is what was sent with true told, once, each sender's values in its order at each receiver.
func (f *traffic[T]) right(t *testing.T, what string) {
	t.Helper()
	sent := slices.Concat(f.sent...)
	places := map[T]int{}
	for _, v := range slices.Concat(f.got...) {
		places[v]++
	}
	for _, v := range sent {
		answers(t, fmt.Sprint(what, ": how often came ", v), places[v], 1)
	}
	answers(t, what+": how many came", len(places), len(sent))
	for _, got := range f.got {
		for _, sent := range f.sent {
			at := -1
			for _, v := range got {
				if i := slices.Index(sent, v); i >= 0 {
					answers(t, fmt.Sprintf("%s: %v of %v in %v", what, v, sent, got), i > at, true)
					at = i
				}
			}
		}
	}
	for _, ends := range f.ends {
		answers(t, what+": how often false was told", ends, 1)
	}
	stands(t, what+": all are over", f.runtime, nil, nil)
}

// everyPick lets tasks go on by all rows of picks that there are; it tells how many.
func everyPick(begin func() (*csp.Runtime, func(picks []uint64))) int {
	var picks []uint64
	for count := 1; ; count++ {
		r, end := begin()
		var sizes []uint64
		for n := len(r.Ready()); n > 0; n = len(r.Ready()) {
			if len(sizes) == len(picks) {
				picks = append(picks, 0)
			}
			r.Step(picks[len(sizes)])
			sizes = append(sizes, uint64(n))
		}
		end(picks)
		for len(picks) > 0 && picks[len(picks)-1]+1 == sizes[len(picks)-1] {
			picks = picks[:len(picks)-1]
		}
		if len(picks) == 0 {
			return count
		}
		picks[len(picks)-1]++
	}
}

// values are so many unlike ones of a sender.
func values[T any](thing func(n int) T, sender, count int) []T {
	var l []T
	for i := range count {
		l = append(l, thing(100*sender+i+1))
	}
	return l
}

// closeBehind is what senders do last, of whom the last one closes.
func closeBehind[T comparable](t *testing.T, f *traffic[T], senders int) func() {
	return func() {
		if senders--; senders == 0 {
			answers(t, "Close", f.channel.Close(), api.OK)
		}
	}
}

// tryEveryPick lets senders of so many values each meet so many receivers, in all ways that there are.
func tryEveryPick[T comparable](t *testing.T, thing func(n int) T, size int, counts []int, receivers int) {
	t.Helper()
	tried := everyPick(func() (*csp.Runtime, func(picks []uint64)) {
		f := newTraffic[T](t, size)
		last := closeBehind(t, f, len(counts))
		for i, count := range counts {
			f.sender(t, values(thing, i+1, count), last)
		}
		for range receivers {
			f.receiver(t)
		}
		return f.runtime, func(picks []uint64) {
			what := fmt.Sprintf("size %d, %v to %d, picks %v", size, counts, receivers, picks)
			f.right(t, what)
			for i, count := range counts {
				lists(t, what, f.sent[i], values(thing, i+1, count)...)
			}
			if len(counts) == 1 && receivers == 1 {
				lists(t, what, f.got[0], f.sent[0]...)
			}
		}
	})
	if tried < 2 {
		t.Errorf("%d rows of picks alone", tried)
	}
}

// P16.6: by no picks a value is lost, doubled or out of order: with one sender or two, one receiver or two, all ways in which their turns may fall.
func TestEveryPick(t *testing.T) {
	for _, size := range []int{0, 1, 2, 3} {
		t.Run(fmt.Sprint(size), func(t *testing.T) {
			t.Parallel()
			tryEveryPick(t, numbers, size, []int{5}, 1)
			tryEveryPick(t, texts, size, []int{5}, 1)
			tryEveryPick(t, numbers, size, []int{2, 2}, 1)
			tryEveryPick(t, texts, size, []int{3}, 2)
			tryEveryPick(t, numbers, size, []int{2, 1}, 2)
		})
	}
}

// P16.6: somebody else closes the channel at any time: what was told true is received, what is told false is not; behind the close no send is told true.
func TestEveryPickWithClose(t *testing.T) {
	for _, size := range []int{0, 1, 2} {
		for _, others := range []int{1, 2} {
			t.Run(fmt.Sprint(size, others), func(t *testing.T) {
				t.Parallel()
				everyPick(func() (*csp.Runtime, func(picks []uint64)) {
					f := newTraffic[int](t, size)
					for i := range others {
						f.sender(t, values(numbers, i+1, 4-others), func() {})
					}
					f.receiver(t)
					spawn(t, f.runtime, func(*csp.Task) { answers(t, "Close", f.channel.Close(), api.OK) })
					return f.runtime, func(picks []uint64) {
						what := fmt.Sprintf("size %d, picks %v", size, picks)
						f.right(t, what)
						for i, sent := range f.sent {
							lists(t, what+": what was told true is ahead", slices.Concat(sent, f.lost[i]), values(numbers, i+1, 4-others)...)
						}
						if others == 1 {
							lists(t, what, f.got[0], f.sent[0]...)
						}
					}
				})
			})
		}
	}
}

// drawnTraffic lets many tasks of many values go on by picks at random.
func drawnTraffic[T comparable](t *testing.T, thing func(n int) T, seed uint64, size int) {
	t.Helper()
	next := row(seed)
	f := newTraffic[T](t, size)
	senders := 1 + next(6)
	last := closeBehind(t, f, senders)
	for i := range senders {
		f.sender(t, values(thing, i+1, next(60)), last)
	}
	for range 1 + next(6) {
		f.receiver(t)
	}
	for f.runtime.Step(uint64(next(1000))) {
	}
	f.right(t, fmt.Sprintf("size %d, seed %d", size, seed))
}

// P16.6: the same of many tasks, by drawn picks.
func TestDrawnPicks(t *testing.T) {
	t.Parallel()
	for _, size := range []int{0, 1, 2, 5, 64} {
		for seed := range uint64(60) {
			drawnTraffic(t, numbers, seed, size)
			drawnTraffic(t, texts, seed, size)
		}
	}
}

// P16.6: with tasks, tickets, TrySend and TryRecv at one channel, what is received is, in order, the first of what was sent with true told; told here when it is settled, and not in a later turn.
func TestOrderOfAll(t *testing.T) {
	for _, size := range []int{0, 1, 3, 64} {
		for seed := range uint64(60) {
			next := row(seed)
			c := chanOf[int](t, csp.New(), size)
			var sent, got []int
			closed := false
			told := func(v int) func(ok bool) {
				return func(ok bool) {
					if ok {
						answers(t, "told true behind a close", closed, false)
						sent = append(sent, v)
					}
				}
			}
			heard := func(v int, ok bool) {
				if ok {
					got = append(got, v)
				}
			}
			for v := range 600 {
				switch next(4) {
				case 0:
					ok, _ := c.TrySend(v)
					told(v)(ok)
				case 1:
					v, ok, _ := c.TryRecv()
					heard(v, ok)
				case 2:
					c.WaitSend(v, NewTicket(func() {}), told(v))
				case 3:
					c.WaitRecv(NewTicket(func() {}), heard)
				}
				answers(t, "how many are on their way", len(sent)-len(got), c.Len())
				if v == 500 {
					closed = true
					answers(t, "Close", c.Close(), api.OK)
				}
			}
			for v, ok, _ := c.TryRecv(); ok; v, ok, _ = c.TryRecv() {
				heard(v, ok)
			}
			// A value that is handed over at size 0 is told to the one and to the other in one call.
			lists(t, fmt.Sprintf("size %d, seed %d", size, seed), got, sent...)
		}
	}
}

// Many who wait, and many of them who have fired, cost each call little.
func TestMany(t *testing.T) {
	const count = 50000
	r := csp.New()
	for _, sends := range []bool{false, true} {
		c, other := chanOf[int](t, r, 0), chanOf[int](t, r, 0)
		told := 0
		for i := range count {
			k := NewTicket(func() {})
			if sends {
				answers(t, "WaitSend", c.WaitSend(i, k, func(bool) { told++ }), api.OK)
			} else {
				answers(t, "WaitRecv", c.WaitRecv(k, func(int, bool) { told++ }), api.OK)
			}
			if i%2 == 0 {
				answers(t, "elsewhere", other.WaitRecv(k, func(int, bool) {}), api.OK)
				sent(t, "elsewhere", true)(other.TrySend(0))
			}
		}
		for i := range count / 4 {
			if sends {
				received(t, "in order", 2*i+1, true, true)(c.TryRecv())
			} else {
				sent(t, "in order", true)(c.TrySend(i))
			}
		}
		answers(t, "told", told, count/4)
		answers(t, "Close", c.Close(), api.OK)
		answers(t, "told", told, count/2)
	}
}

// Such whose tickets have fired elsewhere don't pile up behind one who waits.
func TestFiredDontPileUp(t *testing.T) {
	var d diary
	r := csp.New()
	for _, waits := range []int{0, 1, 7} {
		c, other := chanOf[int](t, r, 0), chanOf[int](t, r, 0)
		full, far := chanOf[int](t, r, 0), chanOf[int](t, r, 0)
		for range waits {
			d.waitRecv(t, c, "r")
			d.waitSend(t, full, "s", 1)
		}
		for range 1000 {
			k, b := NewTicket(func() {}), NewTicket(func() {})
			answers(t, "WaitRecv", c.WaitRecv(k, func(int, bool) {}), api.OK)
			answers(t, "WaitRecv", other.WaitRecv(k, func(int, bool) {}), api.OK)
			answers(t, "WaitSend", full.WaitSend(2, b, func(bool) {}), api.OK)
			answers(t, "WaitSend", far.WaitSend(2, b, func(bool) {}), api.OK)
			sent(t, "elsewhere", true)(other.TrySend(0))
			received(t, "elsewhere", 2, true, true)(far.TryRecv())
			if most := 2*waits + 3; c.receivers.Len() > most || full.senders.Len() > most {
				t.Fatalf("of %d who wait %d and %d are kept", waits, c.receivers.Len(), full.senders.Len())
			}
		}
		answers(t, "those who wait", lookAt(c), look{receivers: waits, canSend: waits > 0})
		answers(t, "those who wait", lookAt(full), look{senders: waits, canRecv: waits > 0})
	}
}

// Where all have fired elsewhere the next look at the channel takes them out; a Forget takes those out that have fired, though it does not count them.
func TestFiredGo(t *testing.T) {
	for name, call := range map[string]func(c *Chan[int], k *Ticket){
		"Can":     func(c *Chan[int], _ *Ticket) { c.Can() },
		"Waits":   func(c *Chan[int], _ *Ticket) { c.Waits() },
		"TrySend": func(c *Chan[int], _ *Ticket) { notSent(t, "TrySend")(c.TrySend(1)) },
		"Forget":  func(c *Chan[int], k *Ticket) { answers(t, "Forget", c.Forget(k), 0) },
	} {
		var d diary
		r := csp.New()
		c, k := chanOf[int](t, r, 0), d.ticket("k")
		for range 100 {
			answers(t, name, c.WaitRecv(k, d.got("k")), api.OK)
		}
		fireElsewhere(t, r, k)
		call(c, k)
		answers(t, name+": who is kept", c.receivers.Len(), 0)
		d.reads(t, name, "k fires")
	}
}

// heavy is something whose memory is let go as soon as nobody keeps it.
type heavy struct {
	_ [64]int
}

// kept tells how many of these are still kept by somebody.
func kept(seen []weak.Pointer[heavy]) int {
	runtime.GC()
	count := 0
	for _, w := range seen {
		if w.Value() != nil {
			count++
		}
	}
	return count
}

// What has gone through a channel is kept by nobody, by whichever call it went: nor a value that was lost, nor what a ticket's function holds behind its firing.
func TestGoneIsNotKept(t *testing.T) {
	for name, out := range map[string]func(c *Chan[*heavy], k *Ticket){
		"received": func(c *Chan[*heavy], k *Ticket) { c.TryRecv(); c.TryRecv(); c.TryRecv() },
		"closed":   func(c *Chan[*heavy], k *Ticket) { c.Close(); c.TryRecv() },
		"forgotten": func(c *Chan[*heavy], k *Ticket) {
			c.TryRecv()
			c.Forget(k)
			c.TryRecv()
		},
	} {
		c := chanOf[*heavy](t, csp.New(), 1)
		var seen []weak.Pointer[heavy]
		thing := func() *heavy {
			h := &heavy{}
			seen = append(seen, weak.Make(h))
			return h
		}
		c.TrySend(thing())
		held := thing()
		first, k := NewTicket(func() { runtime.KeepAlive(held) }), NewTicket(func() {})
		held = nil
		for _, k := range []*Ticket{first, k} {
			answers(t, name, c.WaitSend(thing(), k, func(bool) {}), api.OK)
		}
		out(c, k)
		if n := kept(seen); n != 0 {
			t.Errorf("%s: %d are kept", name, n)
		}
		answers(t, name, c.Len(), 0)
		runtime.KeepAlive(first)
		runtime.KeepAlive(k)
	}
}

// What a task sent or received is kept by nobody when the task has had its turn.
func TestTasksKeepNothing(t *testing.T) {
	for _, size := range []int{0, 1} {
		for _, first := range []string{"send", "recv"} {
			r := csp.New()
			c := chanOf[*heavy](t, r, size)
			var seen []weak.Pointer[heavy]
			send := func(self *csp.Task) {
				h := &heavy{}
				seen = append(seen, weak.Make(h))
				Send(self, c, h, func(bool) {})
			}
			recv := func(self *csp.Task) { Recv(self, c, func(*heavy, bool) {}) }
			var tasks []*csp.Task
			for range 3 {
				if first == "send" {
					tasks = append(tasks, spawn(t, r, send), spawn(t, r, recv))
				} else {
					tasks = append(tasks, spawn(t, r, recv), spawn(t, r, send))
				}
			}
			answers(t, first, r.Run([]uint64{0, 1, 5}, 99), 12)
			if n := kept(seen); n != 0 || len(seen) != 3 {
				t.Errorf("size %d, %s: %d of %d are kept", size, first, n, len(seen))
			}
			runtime.KeepAlive(c)
			runtime.KeepAlive(tasks)
		}
	}
}
