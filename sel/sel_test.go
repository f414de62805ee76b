package sel

import (
	"fmt"
	"math"
	"reflect"
	"slices"
	"testing"

	"conduit/api"
	"conduit/chans"
	"conduit/csp"
)

// answers says what a call must answer.
func answers[T comparable](t *testing.T, what string, got, want T) {
	t.Helper()
	if got != want {
		t.Fatalf("%s: %v, want %v", what, got, want)
	}
}

// lists says what a call must list.
func lists[T comparable](t *testing.T, what string, got []T, want ...T) {
	t.Helper()
	if !slices.Equal(got, want) {
		t.Fatalf("%s: %v, want %v", what, got, want)
	}
}

// stands says which tasks must be ready, and which parked.
func stands(t *testing.T, what string, r *csp.Runtime, ready, parked []int) {
	t.Helper()
	lists(t, what+": Ready", r.Ready(), ready...)
	lists(t, what+": Parked", r.Parked(), parked...)
}

// look is all that can be asked of a channel.
type look struct {
	len, cap           int
	closed             bool
	senders, receivers int
	canSend, canRecv   bool
}

func lookAt[T any](c *chans.Chan[T]) look {
	l := look{len: c.Len(), cap: c.Cap(), closed: c.Closed()}
	l.canSend, l.canRecv = c.Can()
	l.senders, l.receivers = c.Waits()
	return l
}

// looksAt is what can be asked of channels.
func looksAt(channels []*chans.Chan[int]) []look {
	var l []look
	for _, c := range channels {
		l = append(l, lookAt(c))
	}
	return l
}

// chanOf is a channel of a runtime, which must be made.
func chanOf[T any](t *testing.T, r *csp.Runtime, size int) *chans.Chan[T] {
	t.Helper()
	c, e := chans.Make[T](r, size)
	if c == nil || e != api.OK {
		t.Fatalf("Make of %d: %v, %d", size, c, e)
	}
	return c
}

// filled is a channel of numbers with so many of them in its buffer: 1, 2, and so on.
func filled(t *testing.T, r *csp.Runtime, size, count int) *chans.Chan[int] {
	t.Helper()
	c := chanOf[int](t, r, size)
	for i := range count {
		ok, can := c.TrySend(i + 1)
		answers(t, "fill", ok && can, true)
	}
	return c
}

// closed is such a channel, which is closed.
func closed(t *testing.T, r *csp.Runtime, size, count int) *chans.Chan[int] {
	t.Helper()
	c := filled(t, r, size, count)
	answers(t, "Close", c.Close(), api.OK)
	return c
}

// spawn is a new task, which there must be room for.
func spawn(t *testing.T, r *csp.Runtime, f func(self *csp.Task)) *csp.Task {
	t.Helper()
	task, e := r.Spawn(f)
	if e != api.OK || task == nil {
		t.Fatalf("Spawn: %v, %d", task, e)
	}
	return task
}

// withLeft does something in a turn of a new task, at the end of the line, with so much left of its pick.
func withLeft(t *testing.T, r *csp.Runtime, left uint64, do func(self *csp.Task)) *csp.Task {
	t.Helper()
	done := false
	task := spawn(t, r, func(self *csp.Task) {
		do(self)
		done = true
	})
	n := uint64(len(r.Ready()))
	if !r.Step(left*n+n-1) || !done {
		t.Fatal("no turn")
	}
	return task
}

func within(t *testing.T, r *csp.Runtime, do func(self *csp.Task)) *csp.Task {
	t.Helper()
	return withLeft(t, r, 0, do)
}

// selects is a new task that has selected, in its first turn.
func selects(t *testing.T, r *csp.Runtime, otherwise func(), cases ...Case) *csp.Task {
	t.Helper()
	return within(t, r, func(self *csp.Task) { answers(t, "Select", Select(self, cases, otherwise), api.OK) })
}

// diary is what functions that were handed in were told, in order.
type diary struct {
	lines []string
}

func (d *diary) note(form string, parts ...any) {
	d.lines = append(d.lines, fmt.Sprintf(form, parts...))
}

// otherwise notes that it was called.
func (d *diary) otherwise() { d.note("otherwise") }

func (d *diary) ticket(who string) *chans.Ticket {
	return chans.NewTicket(func() { d.note("%s fires", who) })
}

// reads says what stands in a diary since it was read last.
func (d *diary) reads(t *testing.T, what string, want ...string) {
	t.Helper()
	lists(t, what, d.lines, want...)
	d.lines = nil
}

func sent(d *diary, who string) func(ok bool) {
	return func(ok bool) { d.note("%s %v", who, ok) }
}

func got[T any](d *diary, who string) func(v T, ok bool) {
	return func(v T, ok bool) { d.note("%s %v %v", who, v, ok) }
}

// send and recv are cases that note what they are told.
func send[T any](d *diary, c *chans.Chan[T], who string, v T) Case { return OnSend(c, v, sent(d, who)) }

func recv[T any](d *diary, c *chans.Chan[T], who string) Case { return OnRecv(c, got[T](d, who)) }

// waitSend has somebody wait to send at a channel, by a ticket.
func waitSend(t *testing.T, d *diary, c *chans.Chan[int], who string, v int) *chans.Ticket {
	t.Helper()
	k := d.ticket(who)
	answers(t, who+": WaitSend", c.WaitSend(v, k, sent(d, who)), api.OK)
	return k
}

func waitRecv(t *testing.T, d *diary, c *chans.Chan[int], who string) *chans.Ticket {
	t.Helper()
	k := d.ticket(who)
	answers(t, who+": WaitRecv", c.WaitRecv(k, got[int](d, who)), api.OK)
	return k
}

// The chapter's example.
func TestExample(t *testing.T) {
	var d diary
	r := csp.New()
	a, b := chanOf[int](t, r, 0), chanOf[int](t, r, 0)
	both := []Case{recv(&d, a, "a"), recv(&d, b, "b")}
	spawn(t, r, func(self *csp.Task) { chans.Send(self, b, 5, sent(&d, "sender")) })
	answers(t, "the sender's turn", r.Step(0), true)
	selects(t, r, nil, both...)
	stands(t, "the sender gets ready, then the other", r, []int{0, 1}, nil)
	answers(t, "Run", r.Run(nil, 9), 2)
	d.reads(t, "told 5, true by the second", "sender true", "b 5 true")

	selects(t, r, d.otherwise, both...)
	stands(t, "with nobody waiting, and otherwise", r, []int{2}, nil)
	answers(t, "Run", r.Run(nil, 9), 1)
	d.reads(t, "with nobody waiting, and otherwise", "otherwise")

	selects(t, r, nil, both...)
	stands(t, "without", r, nil, []int{3})
	answers(t, "it waits at a", lookAt(a), look{receivers: 1, canSend: true})
	answers(t, "it waits at b", lookAt(b), look{receivers: 1, canSend: true})
	within(t, r, func(self *csp.Task) { chans.Send(self, a, 7, sent(&d, "sender")) })
	stands(t, "it gets ready, then the sender", r, []int{3, 4}, nil)
	answers(t, "nobody waits at a", lookAt(a), look{})
	answers(t, "nobody waits at b any more", lookAt(b), look{})
	answers(t, "Run", r.Run(nil, 9), 2)
	d.reads(t, "a task sends 7", "a 7 true", "sender true")
	stands(t, "all are over", r, nil, nil)
}

// copied is a channel that Make did not answer: a copy of one, which holds a value and has room.
func copied(t *testing.T, r *csp.Runtime) *chans.Chan[int] {
	c := *filled(t, r, 2, 1)
	return &c
}

// laid is a channel that Make answered, over which another one was laid.
func laid(t *testing.T, r *csp.Runtime) *chans.Chan[int] {
	c := filled(t, r, 2, 1)
	*c = *filled(t, r, 2, 1)
	return c
}

// noCases are cases that are none: not made, of a channel that is none, of no function.
func noCases(t *testing.T, r *csp.Runtime, d *diary) map[string]Case {
	cases := map[string]Case{"a zero": {}}
	for name, c := range map[string]*chans.Chan[int]{"nil": nil, "a zero": {}, "a copy": copied(t, r), "one laid over": laid(t, r)} {
		cases["a send at "+name] = send(d, c, name, 5)
		cases["a receive at "+name] = recv(d, c, name)
		cases["a send of nothing at "+name] = OnSend(c, 5, nil)
		cases["a receive of nothing at "+name] = OnRecv(c, nil)
	}
	c := filled(t, r, 2, 1)
	cases["a send of no function"] = OnSend(c, 5, nil)
	cases["a receive of no function"] = OnRecv(c, nil)
	cases["a send of texts at nil"] = OnSend((*chans.Chan[string])(nil), "x", func(bool) {})
	return cases
}

// noTasks are tasks that Spawn did not answer.
func noTasks(self *csp.Task) map[string]*csp.Task {
	c := *self
	return map[string]*csp.Task{"nil": nil, "a zero": {}, "a copy": &c}
}

// ground is channels of a runtime at which something can be done, and such at which nothing can, with those who wait there.
type ground struct {
	diary
	runtime  *csp.Runtime
	channels []*chans.Chan[int]
	able     []Case
	unable   []Case
}

func newGround(t *testing.T, r *csp.Runtime) *ground {
	t.Helper()
	g := &ground{runtime: r}
	half, full, none := filled(t, r, 2, 1), filled(t, r, 1, 1), chanOf[int](t, r, 0)
	shut, sender, receiver, empty := closed(t, r, 1, 1), chanOf[int](t, r, 0), chanOf[int](t, r, 0), chanOf[int](t, r, 1)
	waitSend(t, &g.diary, sender, "sender", 7)
	waitRecv(t, &g.diary, receiver, "receiver")
	g.channels = []*chans.Chan[int]{half, full, none, shut, sender, receiver, empty}
	d := &g.diary
	g.able = []Case{recv(d, half, "half"), send(d, half, "half", 9), recv(d, full, "full"), send(d, shut, "shut", 9), recv(d, shut, "shut"), recv(d, sender, "sender"), send(d, receiver, "receiver", 9), send(d, empty, "empty", 9)}
	g.unable = []Case{send(d, full, "full", 9), recv(d, none, "none"), send(d, none, "none", 9), recv(d, empty, "empty")}
	return g
}

// many are so many cases of a ground, of which some can be now, or none.
func (g *ground) many(count int, can bool) []Case {
	from := g.unable
	if can {
		from = slices.Concat(g.unable[:1], g.able, g.unable[1:])
	}
	var cases []Case
	for i := range count {
		cases = append(cases, from[i%len(from)])
	}
	return cases
}

// refuses says that a Select must be refused, and that nothing changes, at the ground's channels nor with the tasks of runtimes.
func (g *ground) refuses(t *testing.T, what string, task *csp.Task, cases []Case, otherwise func(), want api.Errno, others ...*csp.Runtime) {
	t.Helper()
	was, handed := looksAt(g.channels), len(cases)
	runtimes := append(others, g.runtime)
	var ready, parked [][]int
	for _, r := range runtimes {
		ready, parked = append(ready, r.Ready()), append(parked, r.Parked())
	}
	for range 2 {
		answers(t, what, Select(task, cases, otherwise), want)
		lists(t, what+": the channels", looksAt(g.channels), was...)
		for i, r := range runtimes {
			stands(t, what, r, ready[i], parked[i])
		}
		g.reads(t, what)
	}
	answers(t, what+": the cases", len(cases), handed)
}

// P17.2: no task, or one that Spawn did not answer: that counts first.
func TestNoTask(t *testing.T) {
	r := csp.New()
	g := newGround(t, r)
	foreign := recv(&g.diary, filled(t, csp.New(), 1, 1), "foreign")
	within(t, r, func(self *csp.Task) {
		for name, none := range noTasks(self) {
			for _, otherwise := range []func(){nil, g.otherwise} {
				for _, can := range []bool{false, true} {
					for _, count := range []int{0, 1, 2, 16, 17, 40} {
						g.refuses(t, name, none, g.many(count, can), otherwise, api.ErrNil)
					}
				}
				g.refuses(t, name, none, []Case{foreign}, otherwise, api.ErrNil)
				g.refuses(t, name, none, []Case{{}}, otherwise, api.ErrNil)
			}
		}
		answers(t, "the task may still select", Select(self, g.many(12, true), nil), api.OK)
	})
}

// P17.2, R5: a case that is none, at each place among right ones, however many these are.
func TestNoCase(t *testing.T) {
	r := csp.New()
	g := newGround(t, r)
	for name, none := range noCases(t, r, &g.diary) {
		withLeft(t, r, 999, func(self *csp.Task) {
			for _, otherwise := range []func(){nil, g.otherwise} {
				for _, can := range []bool{false, true} {
					for _, count := range []int{0, 1, 2, 5, 15, 16, 17} {
						for place := range count + 1 {
							cases := slices.Insert(g.many(count, can), place, none)
							g.refuses(t, fmt.Sprint(name, " at ", place, " of ", count), self, cases, otherwise, api.ErrNil)
						}
					}
				}
				g.refuses(t, name+" twice", self, []Case{none, none}, otherwise, api.ErrNil)
			}
			answers(t, "nothing was chosen", r.Choice(1000), 999)
		})
	}
	answers(t, "Run", r.Run(nil, 9), 0)
	g.reads(t, "at last")
}

// R5: a channel counts as it is when Select is called: a case of one that is none by then is none.
func TestChannelIsNoneLater(t *testing.T) {
	r := csp.New()
	g := newGround(t, r)
	c := filled(t, r, 2, 1)
	cases := []Case{recv(&g.diary, c, "c"), send(&g.diary, c, "c", 3)}
	was := *c
	*c = chans.Chan[int]{}
	within(t, r, func(self *csp.Task) {
		for _, one := range cases {
			g.refuses(t, "none", self, []Case{one}, g.otherwise, api.ErrNil)
		}
		*c = was
		answers(t, "it is back", Select(self, cases, nil), api.OK)
	})
	answers(t, "Run", r.Run(nil, 9), 1)
	g.reads(t, "it is back", "c 1 true")
}

// P17.2: 16 cases are not too many, 17 are, whether they can be or not.
func TestHowMany(t *testing.T) {
	for _, count := range []int{1, 2, 15, 16, 17, 18, 32, 33, 300} {
		for _, can := range []bool{false, true} {
			for _, hasOtherwise := range []bool{false, true} {
				what := fmt.Sprint(count, can, hasOtherwise)
				r := csp.New()
				g := newGround(t, r)
				var otherwise func()
				if hasOtherwise {
					otherwise = g.otherwise
				}
				cases := g.many(count, can)
				withLeft(t, r, 999, func(self *csp.Task) {
					if count > 16 {
						g.refuses(t, what, self, cases, otherwise, api.ErrLong)
						answers(t, what+": nothing was chosen", r.Choice(1000), 999)
						return
					}
					answers(t, what, Select(self, cases, otherwise), api.OK)
				})
				turns := 0
				if count <= 16 && (hasOtherwise || can && count > 1) {
					turns = 1
				}
				answers(t, what+": turns", r.Run(nil, 9), turns)
			}
		}
	}
}

// P17.2: with no cases otherwise is called, in the next turn; without an otherwise too it is refused.
func TestNoCases(t *testing.T) {
	for _, none := range [][]Case{nil, {}, make([]Case, 0, 20)} {
		r := csp.New()
		g := newGround(t, r)
		other := spawn(t, r, func(*csp.Task) { g.note("the other's turn") })
		self := withLeft(t, r, 999, func(self *csp.Task) {
			g.refuses(t, "no cases, no otherwise", self, none, nil, api.ErrArg)
			answers(t, "no cases", Select(self, none, g.otherwise), api.OK)
			answers(t, "nothing is chosen", r.Choice(1000), 999)
			g.reads(t, "not in this turn")
		})
		stands(t, "behind all others", r, []int{other.Id(), self.Id()}, nil)
		answers(t, "Run", r.Run(nil, 9), 2)
		g.reads(t, "no cases", "the other's turn", "otherwise")
		answers(t, "the task is over", self.Over(), true)
	}
}

// P17.2: channels of another runtime, or of two, at each place among right ones; a task of another runtime than all.
func TestOther(t *testing.T) {
	r, other := csp.New(), csp.New()
	g, h := newGround(t, r), newGround(t, other)
	withLeft(t, r, 999, func(self *csp.Task) {
		for _, otherwise := range []func(){nil, g.otherwise} {
			for _, can := range []bool{false, true} {
				for _, one := range slices.Concat(h.able, h.unable) {
					for _, count := range []int{0, 1, 2, 5, 15} {
						for place := range count + 1 {
							was := looksAt(h.channels)
							cases := slices.Insert(g.many(count, can), place, one)
							g.refuses(t, fmt.Sprint("foreign at ", place, " of ", count), self, cases, otherwise, api.ErrOther, other)
							lists(t, "the other's channels", looksAt(h.channels), was...)
						}
					}
				}
				for _, count := range []int{1, 2, 16} {
					g.refuses(t, "all foreign", self, h.many(count, can), otherwise, api.ErrOther, other)
				}
			}
		}
		h.reads(t, "nobody is served")
		answers(t, "nothing was chosen", r.Choice(1000), 999)
	})
}

// standings are how a task of a runtime may stand, with what is asked of it then, and what it is answered.
func standings(t *testing.T, r *csp.Runtime, ask func(what string, task *csp.Task, want api.Errno)) {
	t.Helper()
	gone := within(t, r, func(*csp.Task) {})
	waits := within(t, r, func(self *csp.Task) { self.Park(func(int) {}) })
	yielded := within(t, r, func(self *csp.Task) { self.Yield(func() {}) })
	fresh := spawn(t, r, func(*csp.Task) {})
	waiting := selects(t, r, nil, OnRecv(chanOf[int](t, r, 0), func(int, bool) {}))
	all := func(where string) {
		t.Helper()
		ask(where+": over", gone, api.ErrOver)
		ask(where+": parked", waits, api.ErrOver)
		ask(where+": ready again", yielded, api.ErrOver)
		ask(where+": new", fresh, api.ErrOver)
		ask(where+": in a Select", waiting, api.ErrOver)
	}
	all("outside of a turn")
	withLeft(t, r, 999, func(*csp.Task) {
		all("in another one's turn")
		answers(t, "nothing was chosen", r.Choice(1000), 999)
	})
	says := map[string]func(self *csp.Task){
		"yielded":       func(self *csp.Task) { self.Yield(func() {}) },
		"parked":        func(self *csp.Task) { self.Park(func(int) {}) },
		"parked, woken": func(self *csp.Task) { self.Park(func(int) {}); self.Wake(3) },
		"selected": func(self *csp.Task) {
			answers(t, "Select", Select(self, []Case{OnRecv(chanOf[int](t, r, 0), func(int, bool) {})}, nil), api.OK)
		},
		"selected, served": func(self *csp.Task) {
			c := chanOf[int](t, r, 0)
			answers(t, "Select", Select(self, []Case{OnRecv(c, func(int, bool) {})}, nil), api.OK)
			c.TrySend(1)
		},
		"selected otherwise": func(self *csp.Task) { answers(t, "Select", Select(self, nil, func() {}), api.OK) },
	}
	for name, say := range says {
		withLeft(t, r, 999, func(self *csp.Task) {
			say(self)
			ask("has "+name, self, api.ErrBusy)
			answers(t, "nothing was chosen", r.Choice(1000), 999)
		})
	}
	withLeft(t, r, 999, func(self *csp.Task) { ask("running", self, api.OK) })
}

// P17.2: of all that is wrong at once what is named first counts, and nothing changes; with nothing wrong it is done.
func TestOrderOfErrors(t *testing.T) {
	other := csp.New()
	foreign := newGround(t, other)
	for wrongs := range 1 << 4 {
		none, another, can, hasOtherwise := wrongs&1 > 0, wrongs&2 > 0, wrongs&4 > 0, wrongs&8 > 0
		for _, count := range []int{0, 1, 7, 14, 15, 16, 17, 18, 30} {
			r := csp.New()
			g := newGround(t, r)
			cases := g.many(count, can)
			if another && count > 0 {
				cases[count/2] = foreign.many(1, can)[0]
			}
			if none && count > 0 {
				cases[count-1] = Case{}
			}
			var otherwise func()
			if hasOtherwise {
				otherwise = g.otherwise
			}
			standings(t, r, func(what string, task *csp.Task, want api.Errno) {
				switch {
				case none && count > 0:
					want = api.ErrNil
				case count > 16:
					want = api.ErrLong
				case count == 0 && !hasOtherwise:
					want = api.ErrArg
				case another && count > 0:
					want = api.ErrOther
				}
				what = fmt.Sprint(what, ", ", wrongs, ", ", count)
				if want != api.OK {
					g.refuses(t, what, task, cases, otherwise, want, other)
					return
				}
				answers(t, what, Select(task, cases, otherwise), api.OK)
			})
			foreign.reads(t, "the other's channels")
		}
	}
}

// R3: the list of cases is neither changed nor kept, nor is its spare room: what becomes of it behind a Select is nothing to those who wait.
func TestListIsNotKept(t *testing.T) {
	for place := range 3 {
		var d diary
		r := csp.New()
		list := make([]Case, 0, 8)
		var channels []*chans.Chan[int]
		for i := range 3 {
			channels = append(channels, chanOf[int](t, r, 0))
			list = append(list, recv(&d, channels[i], fmt.Sprint("c", i)))
		}
		spare := chanOf[int](t, r, 0)
		list = append(list, recv(&d, spare, "spare"))
		selects(t, r, nil, list[:3]...)
		answers(t, "nobody waits in the spare room", lookAt(spare), look{})
		selects(t, r, nil, list[3])
		spare.TrySend(8)
		answers(t, "Run", r.Run(nil, 9), 1)
		d.reads(t, "the spare room is as it was", "spare 8 true")
		clear(list)
		ok, can := channels[place].TrySend(7)
		answers(t, "one is served", ok && can, true)
		answers(t, "Run", r.Run(nil, 9), 1)
		d.reads(t, "told", fmt.Sprintf("c%d 7 true", place))
		for _, c := range channels {
			answers(t, "nobody waits", lookAt(c), look{})
		}
	}
}

// R3: neither does a Select that is done at once change the list.
func TestListIsNotChanged(t *testing.T) {
	var d diary
	r := csp.New()
	full, empty := filled(t, r, 3, 3), chanOf[int](t, r, 0)
	list := []Case{recv(&d, empty, "empty"), recv(&d, full, "full"), send(&d, full, "send", 1), recv(&d, empty, "empty")}
	short := list[:2:4]
	for want := range 2 {
		selects(t, r, nil, short...)
		answers(t, "Run", r.Run(nil, 9), 1)
		d.reads(t, "the second", fmt.Sprintf("full %d true", want+1))
	}
	for i, who := range []string{"empty 0 false", "full 3 true", "send false", "empty 0 false"} {
		if i == 0 {
			empty.Close()
			full.Close()
		}
		selects(t, r, nil, list[i])
		answers(t, "Run", r.Run(nil, 9), 1)
		d.reads(t, "each case as it was", who)
	}
}

// A case has no calls and no field that another package could set.
func TestFace(t *testing.T) {
	for _, kind := range []reflect.Type{reflect.TypeFor[Case](), reflect.TypeFor[*Case]()} {
		answers(t, "a case's calls", kind.NumMethod(), 0)
	}
	kind := reflect.TypeFor[Case]()
	for i := range kind.NumField() {
		answers(t, kind.Field(i).Name, kind.Field(i).IsExported(), false)
	}
}

// Channels may carry anything; a case of each kind may stand beside each other.
func TestKinds(t *testing.T) {
	var d diary
	r := csp.New()
	n := 7
	pointers, texts, lists, things := chanOf[*int](t, r, 1), chanOf[string](t, r, 1), chanOf[[]byte](t, r, 1), chanOf[any](t, r, 1)
	floats, nobody, carried := chanOf[float64](t, r, 1), chanOf[struct{}](t, r, 1), chanOf[*chans.Chan[int]](t, r, 1)
	list := []byte{1, 2}
	var shared bool
	cases := []Case{
		OnSend(pointers, &n, sent(&d, "pointer")), OnRecv(pointers, func(p *int, ok bool) { d.note("pointer %v %v", p == &n, ok) }),
		send(&d, texts, "text", "x"), recv(&d, texts, "text"),
		send(&d, lists, "list", list), OnRecv(lists, func(l []byte, ok bool) { shared = &l[0] == &list[0] }),
		send[any](&d, things, "thing", nil), recv(&d, things, "thing"),
		send(&d, floats, "float", math.NaN()), recv(&d, floats, "float"),
		send(&d, nobody, "nobody", struct{}{}), recv(&d, nobody, "nobody"),
		OnSend(carried, nil, sent(&d, "channel")), OnRecv(carried, func(c *chans.Chan[int], ok bool) { d.note("channel %v %v", c == nil, ok) }),
	}
	for i := range len(cases) / 2 {
		selects(t, r, nil, cases[2*i])
		selects(t, r, nil, cases[2*i+1])
	}
	answers(t, "Run", r.Run(nil, 99), 14)
	d.reads(t, "each", "pointer true", "pointer true true", "text true", "text x true", "list true", "thing true", "thing <nil> true", "float true", "float NaN true", "nobody true", "nobody {} true", "channel true", "channel true true")
	answers(t, "what is behind a list is shared", shared, true)
	for i := range 7 {
		withLeft(t, r, uint64(i), func(self *csp.Task) { answers(t, "Select of all", Select(self, cases, nil), api.OK) })
	}
	answers(t, "Run", r.Run(nil, 99), 7)
}
