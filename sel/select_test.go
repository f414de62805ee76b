package sel

import (
	"fmt"
	"slices"
	"testing"

	"conduit/api"
	"conduit/chans"
	"conduit/csp"
)

// spot is a case with a channel of its own: what is told if it is done, who is served by that, and how the channel stands then; nothing is told if it can't be done now.
type spot struct {
	name      string
	made      Case
	channel   *chans.Chan[int]
	told      string
	serves    []string
	was, will look
}

// spots are cases of all kinds, each at a new channel.
func spots() []func(t *testing.T, r *csp.Runtime, d *diary) spot {
	now := func(size, count int, told string, will look, end bool) func(t *testing.T, r *csp.Runtime, d *diary) spot {
		return func(t *testing.T, r *csp.Runtime, d *diary) spot {
			c := filled(t, r, size, count)
			if end {
				answers(t, "Close", c.Close(), api.OK)
			}
			return spot{channel: c, told: told, will: will}
		}
	}
	served := func(size, count int, told string, will look, serves string) func(t *testing.T, r *csp.Runtime, d *diary) spot {
		return func(t *testing.T, r *csp.Runtime, d *diary) spot {
			c := filled(t, r, size, count)
			if told == "send true" {
				waitRecv(t, d, c, "w")
				waitRecv(t, d, c, "v")
			} else {
				waitSend(t, d, c, "w", 70)
				waitSend(t, d, c, "v", 80)
			}
			return spot{channel: c, told: told, serves: []string{serves, "w fires"}, will: will}
		}
	}
	none := func(size, count int, sends bool, waits int) func(t *testing.T, r *csp.Runtime, d *diary) spot {
		return func(t *testing.T, r *csp.Runtime, d *diary) spot {
			c := filled(t, r, size, count)
			for range waits {
				if sends {
					waitSend(t, d, c, "w", 70)
				} else {
					waitRecv(t, d, c, "w")
				}
			}
			l := lookAt(c)
			if sends {
				l.senders, l.canRecv = l.senders+1, true
				return spot{name: "send", channel: c, will: l}
			}
			l.receivers, l.canSend = l.receivers+1, true
			return spot{name: "recv", channel: c, will: l}
		}
	}
	return []func(t *testing.T, r *csp.Runtime, d *diary) spot{
		now(1, 0, "send true", look{len: 1, cap: 1, canRecv: true}, false),
		now(2, 1, "send true", look{len: 2, cap: 2, canRecv: true}, false),
		now(64, 63, "send true", look{len: 64, cap: 64, canRecv: true}, false),
		now(0, 0, "send false", look{closed: true, canSend: true, canRecv: true}, true),
		now(2, 2, "send false", look{len: 2, cap: 2, closed: true, canSend: true, canRecv: true}, true),
		now(2, 1, "recv 1 true", look{cap: 2, canSend: true}, false),
		now(2, 2, "recv 1 true", look{len: 1, cap: 2, canSend: true, canRecv: true}, false),
		now(0, 0, "recv 0 false", look{closed: true, canSend: true, canRecv: true}, true),
		now(1, 1, "recv 1 true", look{cap: 1, closed: true, canSend: true, canRecv: true}, true),
		served(0, 0, "send true", look{receivers: 1, canSend: true}, "w 90 true"),
		served(2, 0, "send true", look{cap: 2, receivers: 1, canSend: true}, "w 90 true"),
		served(0, 0, "recv 70 true", look{senders: 1, canRecv: true}, "w true"),
		served(2, 2, "recv 1 true", look{len: 2, cap: 2, senders: 1, canRecv: true}, "w true"),
		none(0, 0, true, 0), none(0, 0, true, 2), none(2, 2, true, 0), none(2, 2, true, 1),
		none(0, 0, false, 0), none(0, 0, false, 2), none(2, 0, false, 0), none(2, 0, false, 1),
	}
}

// spotOf is a spot of a kind, at a place.
func spotOf(t *testing.T, r *csp.Runtime, d *diary, kind, place int) spot {
	t.Helper()
	s := spots()[kind](t, r, d)
	who := s.told
	if who == "" {
		who = s.name
	}
	s.name = fmt.Sprintf("%d %s", place, who[:4])
	if s.told != "" {
		s.told = fmt.Sprintf("%d %s", place, s.told)
	}
	if who[:4] == "send" {
		s.made = send(d, s.channel, s.name, 90)
	} else {
		s.made = recv(d, s.channel, s.name)
	}
	s.was = lookAt(s.channel)
	return s
}

// tell says that a Select of these spots, with so much left of the pick, does what the chapter says.
func tell(t *testing.T, kinds []int, left uint64, hasOtherwise bool) {
	t.Helper()
	var d diary
	r := csp.New()
	what := fmt.Sprint(kinds, left, hasOtherwise)
	var all, able []spot
	var cases []Case
	for place, kind := range kinds {
		s := spotOf(t, r, &d, kind, place)
		all, cases = append(all, s), append(cases, s.made)
		if s.told != "" {
			able = append(able, s)
		}
	}
	var otherwise func()
	if hasOtherwise {
		otherwise = d.otherwise
	}
	done, rest, told := spot{}, left, []string(nil)
	switch n := uint64(len(able)); {
	case n > 0:
		done, rest = able[left%n], left/n
		told = []string{done.told}
	case hasOtherwise:
		told = []string{"otherwise"}
	}
	self := withLeft(t, r, left, func(self *csp.Task) {
		answers(t, what, Select(self, cases, otherwise), api.OK)
		d.reads(t, what+": who is served at once", done.serves...)
		answers(t, what+": what is left of the pick", r.Choice(7), int(rest%7))
		answers(t, what+": what is left of that", r.Choice(1000), int(rest/7%1000))
	})
	parks := len(told) == 0
	for _, s := range all {
		want := s.was
		if parks || s.name == done.name {
			want = s.will
		}
		answers(t, what+": the channel of "+s.name, lookAt(s.channel), want)
	}
	if parks {
		stands(t, what, r, nil, []int{self.Id()})
		return
	}
	stands(t, what, r, []int{self.Id()}, nil)
	answers(t, what+": Run", r.Run(nil, 9), 1)
	d.reads(t, what, told...)
}

// P17.2: which case is done, by which pick, where none, one, some or all can be: of all pairs and of all threes of kinds.
func TestWhichIsDone(t *testing.T) {
	for _, hasOtherwise := range []bool{false, true} {
		t.Run(fmt.Sprint(hasOtherwise), func(t *testing.T) {
			t.Parallel()
			count := len(spots())
			for a := range count {
				for left := range uint64(3) {
					tell(t, []int{a}, left, hasOtherwise)
				}
				for b := range count {
					for left := range uint64(5) {
						tell(t, []int{a, b}, left, hasOtherwise)
					}
					for c := range count {
						for _, left := range []uint64{0, 1, 2, 7} {
							tell(t, []int{a, b, c}, left, hasOtherwise)
						}
					}
				}
			}
		})
	}
}

// P17.2: the same of up to 16, of which each number can be, at the beginning, at the end, and all over; with great picks too.
func TestWhichOfMany(t *testing.T) {
	lefts := []uint64{0, 1, 2, 3, 14, 15, 16, 17, 255, 1000003, 1<<58 - 1}
	able := func(i int) int { return i % 13 }
	unable := func(i int) int { return 13 + i%8 }
	for _, count := range []int{4, 15, 16} {
		for many := range count + 1 {
			ahead, behind, over := make([]int, count), make([]int, count), make([]int, count)
			for i := range count {
				ahead[i], behind[i], over[i] = unable(i), unable(i), unable(i)
			}
			for i := range many {
				ahead[i], behind[count-1-i], over[i*5%count] = able(i), able(i), able(i)
			}
			if count == 15 {
				over = ahead
			}
			for _, kinds := range [][]int{ahead, behind, over} {
				for _, left := range lefts {
					tell(t, kinds, left, left%2 == 0)
				}
			}
		}
	}
}

// P17.2: a case can be chosen at all places of a whole round of picks, and what is left goes on to a second Choice and to a third.
func TestChoicesOfOneTurn(t *testing.T) {
	for left := range uint64(3 * 2 * 5) {
		var d diary
		r := csp.New()
		a, b, none := filled(t, r, 1, 1), chanOf[int](t, r, 1), chanOf[int](t, r, 0)
		withLeft(t, r, left, func(self *csp.Task) {
			first := r.Choice(2)
			cases := []Case{recv(&d, none, "none"), recv(&d, a, "a"), send(&d, b, "b", 1), recv(&d, none, "none"), send(&d, b, "c", 2)}
			answers(t, "Select", Select(self, cases, d.otherwise), api.OK)
			answers(t, "ahead", first, int(left%2))
			answers(t, "behind", r.Choice(5), int(left/6))
		})
		answers(t, "Run", r.Run([]uint64{left}, 9), 1)
		d.reads(t, fmt.Sprint(left), []string{"a 1 true", "b true", "c true"}[left/2%3])
	}
}

// P17.2: whoever is served gets ready ahead of the one who serves, and that one behind all who were ready.
func TestServedAhead(t *testing.T) {
	for _, sends := range []bool{false, true} {
		for _, size := range []int{0, 1} {
			for _, ofSelect := range []bool{false, true} {
				var d diary
				r := csp.New()
				c := filled(t, r, size, map[bool]int{false: size}[sends])
				far := chanOf[int](t, r, 0)
				waits := []Case{recv(&d, far, "far"), recv(&d, c, "w")}
				if !sends {
					waits[1] = send(&d, c, "w", 5)
				}
				waiting := within(t, r, func(self *csp.Task) {
					switch {
					case ofSelect:
						answers(t, "Select", Select(self, waits, nil), api.OK)
					case sends:
						answers(t, "Recv", chans.Recv(self, c, got[int](&d, "w")), api.OK)
					default:
						answers(t, "Send", chans.Send(self, c, 5, sent(&d, "w")), api.OK)
					}
				})
				first := spawn(t, r, func(*csp.Task) { d.note("first") })
				mine := recv(&d, c, "s")
				if sends {
					mine = send(&d, c, "s", 6)
				}
				self := selects(t, r, d.otherwise, recv(&d, far, "far"), mine)
				last := spawn(t, r, func(*csp.Task) { d.note("last") })
				stands(t, "the one who is served, then the one who serves", r, []int{first.Id(), waiting.Id(), self.Id(), last.Id()}, nil)
				answers(t, "Run", r.Run(nil, 9), 4)
				switch {
				case sends:
					d.reads(t, "sends", "first", "w 6 true", "s true", "last")
				case size == 0:
					d.reads(t, "receives", "first", "w true", "s 5 true", "last")
				default:
					d.reads(t, "receives", "first", "w true", "s 1 true", "last")
				}
			}
		}
	}
}

// P17.2: while somebody is served the one who serves is running yet, and has not said how it goes on.
func TestServesAheadOfYield(t *testing.T) {
	r := csp.New()
	c := chanOf[int](t, r, 0)
	calls := 0
	var self *csp.Task
	k := chans.NewTicket(func() {
		calls++
		stands(t, "within fire", r, nil, nil)
		answers(t, "Running", r.Running(), true)
		answers(t, "Wake", self.Wake(1), api.ErrOver)
		answers(t, "Over", self.Over(), false)
		answers(t, "the channel stands as it will", lookAt(c), look{})
	})
	answers(t, "WaitRecv", c.WaitRecv(k, func(int, bool) {}), api.OK)
	self = within(t, r, func(task *csp.Task) {
		self = task
		answers(t, "Select", Select(task, []Case{OnSend(c, 1, func(bool) { calls++ })}, nil), api.OK)
		answers(t, "fire is called at once", calls, 1)
	})
	stands(t, "behind", r, []int{self.Id()}, nil)
	answers(t, "Run", r.Run(nil, 9), 1)
	answers(t, "then is called", calls, 2)
}

// P17.2: then, and otherwise, are called in the next turn, with nothing left unsaid: a task that says nothing in it is over, one that selects in it goes on.
func TestNextTurn(t *testing.T) {
	var d diary
	r := csp.New()
	c := filled(t, r, 5, 5)
	count := 0
	var again func(self *csp.Task)
	again = func(self *csp.Task) {
		count++
		answers(t, "Select", Select(self, []Case{OnRecv(c, func(v int, ok bool) {
			d.note("%d %v", v, ok)
			again(self)
		})}, func() {
			d.note("otherwise")
			if count < 8 {
				again(self)
			}
		}), api.OK)
	}
	self := spawn(t, r, again)
	for i := range 9 {
		answers(t, "it is not over", self.Over(), false)
		stands(t, "it is ready", r, []int{self.Id()}, nil)
		answers(t, "Step", r.Step(0), true)
		answers(t, "one call a turn", len(d.lines), i)
	}
	answers(t, "Step", r.Step(0), false)
	answers(t, "it is over", self.Over(), true)
	d.reads(t, "told", "1 true", "2 true", "3 true", "4 true", "5 true", "otherwise", "otherwise", "otherwise")
}

// waiter has a task wait at so many channels of their own, to send at those at even places, to receive at the others; some have buffers.
func waiter(t *testing.T, r *csp.Runtime, d *diary, count int) ([]*chans.Chan[int], *csp.Task) {
	t.Helper()
	var channels []*chans.Chan[int]
	var cases []Case
	for i := range count {
		size := i / 2 % 3
		if i%2 == 0 {
			channels = append(channels, filled(t, r, size, size))
			cases = append(cases, send(d, channels[i], fmt.Sprint("at ", i), 100+i))
		} else {
			channels = append(channels, chanOf[int](t, r, size))
			cases = append(cases, recv(d, channels[i], fmt.Sprint("at ", i)))
		}
	}
	return channels, selects(t, r, nil, cases...)
}

// servedAt are the ways in which somebody who waits so at a place is served, and what that one's then is told.
func servedAt(t *testing.T, r *csp.Runtime, c *chans.Chan[int], place int) map[string]func() string {
	told := fmt.Sprintf("at %d 7 true", place)
	ended := fmt.Sprintf("at %d 0 false", place)
	if place%2 == 0 {
		told, ended = fmt.Sprintf("at %d true", place), fmt.Sprintf("at %d false", place)
	}
	return map[string]func() string{
		"try": func() string {
			if place%2 == 0 {
				_, ok, can := c.TryRecv()
				answers(t, "TryRecv", ok && can, true)
			} else {
				ok, can := c.TrySend(7)
				answers(t, "TrySend", ok && can, true)
			}
			return told
		},
		"task": func() string {
			within(t, r, func(self *csp.Task) {
				if place%2 == 0 {
					answers(t, "Recv", chans.Recv(self, c, func(int, bool) {}), api.OK)
				} else {
					answers(t, "Send", chans.Send(self, c, 7, func(bool) {}), api.OK)
				}
			})
			return told
		},
		"select": func() string {
			selects(t, r, nil, OnRecv(chanOf[int](t, r, 0), func(int, bool) {}), map[bool]Case{true: OnRecv(c, func(int, bool) {}), false: OnSend(c, 7, func(bool) {})}[place%2 == 0])
			return told
		},
		"close": func() string {
			answers(t, "Close", c.Close(), api.OK)
			return ended
		},
	}
}

// P17.2, P17.3: who waits at many is served by one alone, at each place, in each way; is told so by that case's then, once; and waits at none any more.
func TestServedAtEachPlace(t *testing.T) {
	for count := range 17 {
		for place := range count {
			for _, way := range []string{"try", "task", "select", "close"} {
				var d diary
				r := csp.New()
				channels, self := waiter(t, r, &d, count)
				stands(t, "it waits", r, nil, []int{self.Id()})
				for i, c := range channels {
					senders, receivers := c.Waits()
					answers(t, fmt.Sprint("it waits at ", i), senders == 1-i%2 && receivers == i%2, true)
				}
				want := servedAt(t, r, channels[place], place)[way]()
				what := fmt.Sprint(way, " at ", place, " of ", count)
				answers(t, what+": ready", r.Ready()[0], self.Id())
				d.reads(t, what+": it is not told ahead of its turn")
				for i, c := range channels {
					senders, receivers := c.Waits()
					answers(t, fmt.Sprint(what, ": it waits no more at ", i), senders+receivers, 0)
					if i != place {
						answers(t, fmt.Sprint(what, ": the buffer at ", i), c.Len(), c.Cap()*(1-i%2))
					}
				}
				r.Run(nil, 9)
				d.reads(t, what, want)
				for _, c := range channels {
					c.TryRecv()
					c.TrySend(9)
					c.Close()
				}
				answers(t, what+": over", r.Run(nil, 9), 0)
				d.reads(t, what+": once")
			}
		}
	}
}

// P17.2: between its being served and its turn nobody else serves it, wherever it waited.
func TestServedOnce(t *testing.T) {
	for first := range 6 {
		for second := range 6 {
			var d diary
			r := csp.New()
			channels, self := waiter(t, r, &d, 6)
			want := servedAt(t, r, channels[first], first)["try"]()
			c := channels[second]
			if second%2 == 0 {
				count := c.Len()
				for range count {
					c.TryRecv()
				}
				_, ok, can := c.TryRecv()
				answers(t, "its value is not there", ok || can, false)
			} else if ok, can := c.TrySend(8); ok != (c.Cap() > 0) || can != ok {
				t.Fatal("it does not receive", ok, can)
			}
			answers(t, "Close", c.Close(), api.OK)
			stands(t, "ready, once", r, []int{self.Id()}, nil)
			answers(t, "Run", r.Run(nil, 9), 1)
			d.reads(t, fmt.Sprint(first, second), want)
		}
	}
}

// P17.2: it may be served in the very turn in which it selected.
func TestServedInTheSameTurn(t *testing.T) {
	var d diary
	r := csp.New()
	a, b := chanOf[int](t, r, 0), chanOf[int](t, r, 0)
	self := within(t, r, func(self *csp.Task) {
		answers(t, "Select", Select(self, []Case{recv(&d, a, "a"), send(&d, b, "b", 4)}, nil), api.OK)
		stands(t, "parked", r, nil, []int{self.Id()})
		v, ok, can := b.TryRecv()
		answers(t, "TryRecv", v == 4 && ok && can, true)
		stands(t, "ready", r, []int{self.Id()}, nil)
		answers(t, "it waits no more", lookAt(a), look{})
		answers(t, "Select again", Select(self, []Case{recv(&d, a, "a")}, nil), api.ErrBusy)
		d.reads(t, "not in this turn")
	})
	stands(t, "behind the turn", r, []int{self.Id()}, nil)
	answers(t, "Run", r.Run(nil, 9), 1)
	d.reads(t, "b", "b true")
}

// A task that somebody else wakes goes on waiting at each case, in its places; one that is served meanwhile is told.
func TestWokenByAnother(t *testing.T) {
	for place := range 2 {
		for _, meanwhile := range []bool{false, true} {
			var d diary
			r := csp.New()
			channels := []*chans.Chan[int]{chanOf[int](t, r, 0), chanOf[int](t, r, 0)}
			self := selects(t, r, nil, recv(&d, channels[0], "c0"), recv(&d, channels[1], "c1"))
			behind := selects(t, r, nil, recv(&d, channels[place], "behind"))
			for range 2 {
				answers(t, "Wake", self.Wake(5), api.OK)
				stands(t, "woken", r, []int{self.Id()}, []int{behind.Id()})
				if !meanwhile {
					answers(t, "its turn", r.Run(nil, 9), 1)
					stands(t, "parked again", r, nil, []int{self.Id(), behind.Id()})
					d.reads(t, "nothing is told")
				} else {
					answers(t, "nobody wakes it twice", self.Wake(6), api.ErrOver)
					break
				}
			}
			ok, can := channels[place].TrySend(3)
			answers(t, "it is ahead of the other", ok && can, true)
			stands(t, "served", r, []int{self.Id()}, []int{behind.Id()})
			answers(t, "it waits no more", lookAt(channels[1-place]), look{})
			answers(t, "Run", r.Run(nil, 9), 1)
			d.reads(t, "told", fmt.Sprintf("c%d 3 true", place))
		}
	}
}

// P17.2: it waits at each case in order, behind all others; with the same channel in several cases the first one of those is served.
func TestSameChannel(t *testing.T) {
	for _, ahead := range []bool{false, true} {
		for _, way := range []string{"send", "recv", "close"} {
			var d diary
			r := csp.New()
			c := chanOf[int](t, r, 0)
			cases := []Case{recv(&d, c, "first"), send(&d, c, "second", 2), recv(&d, c, "third"), send(&d, c, "fourth", 4)}
			count := len(cases)
			if ahead {
				waitRecv(t, &d, c, "w")
				cases, count = []Case{cases[0], cases[2]}, 2
			}
			self := selects(t, r, nil, cases...)
			s, w := c.Waits()
			want := 2
			if ahead {
				want = 3
				answers(t, "the one ahead", s == 0 && w == 3, true)
				ok, can := c.TrySend(1)
				answers(t, "TrySend", ok && can, true)
				d.reads(t, "the one ahead is served", "w 1 true", "w fires")
				_, w = c.Waits()
				want--
			}
			answers(t, "it waits twice", w, want)
			stands(t, "it waits", r, nil, []int{self.Id()})
			told := "first 8 true"
			switch {
			case way == "send" || way == "recv" && count == 2:
				ok, can := c.TrySend(8)
				answers(t, "TrySend", ok && can, true)
			case way == "recv":
				v, ok, can := c.TryRecv()
				answers(t, "TryRecv", v == 2 && ok && can, true)
				told = "second true"
			default:
				answers(t, "Close", c.Close(), api.OK)
				told = "first 0 false"
			}
			s, w = c.Waits()
			answers(t, "it waits no more", s+w, 0)
			answers(t, "Run", r.Run(nil, 9), 1)
			d.reads(t, way, told)
		}
	}
}

// P17.2: sends and receives of one channel together, by what its buffer lets be: a task never meets itself.
func TestSameChannelNow(t *testing.T) {
	for size := range 4 {
		for count := range size + 1 {
			for left := range uint64(6) {
				var d diary
				r := csp.New()
				c := filled(t, r, size, count)
				cases := []Case{send(&d, c, "s1", 91), recv(&d, c, "r1"), send(&d, c, "s2", 92), recv(&d, c, "r2")}
				var able []string
				for i, told := range []string{"s1 true", "r1 1 true", "s2 true", "r2 1 true"} {
					if i%2 == 0 && count < size || i%2 == 1 && count > 0 {
						able = append(able, told)
					}
				}
				withLeft(t, r, left, func(self *csp.Task) { answers(t, "Select", Select(self, cases, nil), api.OK) })
				if len(able) == 0 {
					stands(t, "size 0", r, nil, []int{0})
					answers(t, "size 0", lookAt(c), look{senders: 2, receivers: 2, canSend: true, canRecv: true})
					continue
				}
				answers(t, "Run", r.Run(nil, 9), 1)
				d.reads(t, fmt.Sprint(size, count, left), able[left%uint64(len(able))])
			}
		}
	}
}

// P17.2: two tasks that select at the same channels serve each other, by which pick ever, in which order ever their cases stand.
func TestServeEachOther(t *testing.T) {
	for orders := range 4 {
		for left := range uint64(4) {
			var d diary
			r := csp.New()
			a, b := chanOf[int](t, r, 0), chanOf[int](t, r, 0)
			mine := []Case{send(&d, a, "x a", 1), recv(&d, b, "x b")}
			yours := []Case{recv(&d, a, "y a"), send(&d, b, "y b", 2)}
			if orders&1 > 0 {
				slices.Reverse(mine)
			}
			if orders&2 > 0 {
				slices.Reverse(yours)
			}
			x := selects(t, r, nil, mine...)
			y := withLeft(t, r, left, func(self *csp.Task) { answers(t, "Select", Select(self, yours, nil), api.OK) })
			stands(t, "both are ready", r, []int{x.Id(), y.Id()}, nil)
			answers(t, "nobody waits at a", lookAt(a), look{})
			answers(t, "nobody waits at b", lookAt(b), look{})
			answers(t, "Run", r.Run(nil, 9), 2)
			if atA := left%2 == 0; atA == (orders&2 == 0) {
				d.reads(t, "at a", "x a true", "y a 1 true")
			} else {
				d.reads(t, "at b", "x b 2 true", "y b true")
			}
			stands(t, "both are over", r, nil, nil)
		}
	}
}

// P17.2: the same at one channel, at which both would send or receive; a third waits on.
func TestServeEachOtherAtOne(t *testing.T) {
	for left := range uint64(4) {
		var d diary
		r := csp.New()
		c := chanOf[string](t, r, 0)
		of := func(who string) []Case { return []Case{send(&d, c, who+" sends", who), recv(&d, c, who+" receives")} }
		x := selects(t, r, nil, of("x")...)
		y := withLeft(t, r, left, func(self *csp.Task) { answers(t, "Select", Select(self, of("y"), nil), api.OK) })
		z := selects(t, r, nil, of("z")...)
		stands(t, "x and y are ready, z waits", r, []int{x.Id(), y.Id()}, []int{z.Id()})
		answers(t, "z waits", lookAt(c), look{senders: 1, receivers: 1, canSend: true, canRecv: true})
		answers(t, "Run", r.Run(nil, 9), 2)
		if left%2 == 0 {
			d.reads(t, "y sends", "x receives y true", "y sends true")
		} else {
			d.reads(t, "y receives", "x sends true", "y receives x true")
		}
	}
}

// P17.1: a case can be used in several Selects: by one task again and again, by several that wait at once, twice in one.
func TestCaseIsUsedAgain(t *testing.T) {
	var d diary
	r := csp.New()
	c := chanOf[int](t, r, 0)
	receives, sends := recv(&d, c, "r"), send(&d, c, "s", 5)
	var tasks []int
	for range 3 {
		tasks = append(tasks, selects(t, r, nil, receives, receives).Id())
	}
	answers(t, "each waits twice", lookAt(c), look{receivers: 6, canSend: true})
	for i := range 3 {
		self := selects(t, r, nil, sends, sends)
		stands(t, "one is served", r, []int{tasks[i], self.Id()}, tasks[i+1:])
		answers(t, "the others wait", lookAt(c), look{receivers: 4 - 2*i, canSend: i < 2})
		answers(t, "Run", r.Run(nil, 9), 2)
		d.reads(t, "told", "r 5 true", "s true")
	}
	selects(t, r, nil, sends)
	self := within(t, r, func(self *csp.Task) {
		answers(t, "Select", Select(self, []Case{receives}, nil), api.OK)
	})
	stands(t, "the other way round", r, []int{self.Id() - 1, self.Id()}, nil)
	answers(t, "Run", r.Run(nil, 9), 2)
	d.reads(t, "the other way round", "s true", "r 5 true")
	c.Close()
	selects(t, r, nil, receives, sends)
	selects(t, r, nil, sends, receives)
	answers(t, "Run", r.Run(nil, 9), 2)
	d.reads(t, "closed", "r 0 false", "s false")
}

// P17.2: that a case stands in a list is nothing to its channel: making cases, and a Select that goes on by otherwise, leave no trace.
func TestNoTrace(t *testing.T) {
	var d diary
	r := csp.New()
	c, full := chanOf[int](t, r, 1), filled(t, r, 1, 1)
	cases := []Case{recv(&d, c, "c"), send(&d, full, "full", 3)}
	answers(t, "making cases", lookAt(c), look{cap: 1, canSend: true})
	for range 3 {
		selects(t, r, d.otherwise, cases...)
		answers(t, "c", lookAt(c), look{cap: 1, canSend: true})
		answers(t, "full", lookAt(full), look{len: 1, cap: 1, canRecv: true})
	}
	c.TrySend(1)
	full.TryRecv()
	answers(t, "Run", r.Run(nil, 9), 3)
	d.reads(t, "otherwise, though it could be by now", "otherwise", "otherwise", "otherwise")
}

// P17.2: at a close all who wait there are told false, receivers first, each once, however often they wait there.
func TestCloseOfMany(t *testing.T) {
	var d diary
	r := csp.New()
	c, far := chanOf[int](t, r, 0), chanOf[int](t, r, 0)
	both := selects(t, r, nil, send(&d, c, "both sends", 1), recv(&d, far, "far"), recv(&d, c, "both receives"))
	answers(t, "it waits at both sides", lookAt(c), look{senders: 1, receivers: 1, canSend: true, canRecv: true})
	other := selects(t, r, nil, recv(&d, far, "other"), recv(&d, far, "other again"))
	answers(t, "Close", c.Close(), api.OK)
	stands(t, "the one at c", r, []int{both.Id()}, []int{other.Id()})
	answers(t, "the other waits", lookAt(far), look{receivers: 2, canSend: true})
	answers(t, "Close", far.Close(), api.OK)
	stands(t, "both", r, []int{both.Id(), other.Id()}, nil)
	answers(t, "Run", r.Run(nil, 9), 2)
	d.reads(t, "told", "both receives 0 false", "other 0 false")
}
