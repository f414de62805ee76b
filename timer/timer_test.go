package timer

import (
	"fmt"
	"math"
	"reflect"
	"slices"
	"testing"

	"conduit/api"
	"conduit/chans"
	"conduit/csp"
	"conduit/sel"
)

// answers says what a call must answer.
func answers[T comparable](t *testing.T, what string, got, want T) {
	t.Helper()
	if got != want {
		t.Fatalf("%s: %v, want %v", what, got, want)
	}
}

// lists says what a call must list.
func lists[T comparable](t *testing.T, what string, got []T, want ...T) {
	t.Helper()
	if !slices.Equal(got, want) {
		t.Fatalf("%s: %v, want %v", what, got, want)
	}
}

// stands says which tasks must be ready, and which parked.
func stands(t *testing.T, what string, r *csp.Runtime, ready, parked []int) {
	t.Helper()
	lists(t, what+": Ready", r.Ready(), ready...)
	lists(t, what+": Parked", r.Parked(), parked...)
}

// look is all that can be asked of a channel.
type look struct {
	len, cap           int
	closed             bool
	senders, receivers int
	canSend, canRecv   bool
}

func lookAt[T any](c *chans.Chan[T]) look {
	l := look{len: c.Len(), cap: c.Cap(), closed: c.Closed()}
	l.canSend, l.canRecv = c.Can()
	l.senders, l.receivers = c.Waits()
	return l
}

// waiting, fired and spent are how the channel of a timer stands: ahead of its firing, behind it, and when it was stopped or Now was received.
var (
	waiting = look{cap: 1, canSend: true}
	fired   = look{cap: 1, len: 1, closed: true, canSend: true, canRecv: true}
	spent   = look{cap: 1, closed: true, canSend: true, canRecv: true}
)

// spawn is a new task, which there must be room for.
func spawn(t *testing.T, r *csp.Runtime, f func(self *csp.Task)) *csp.Task {
	t.Helper()
	task, e := r.Spawn(f)
	if e != api.OK || task == nil {
		t.Fatalf("Spawn: %v, %d", task, e)
	}
	return task
}

// within does something in a turn of a new task, at the end of the line.
func within(t *testing.T, r *csp.Runtime, do func(self *csp.Task)) *csp.Task {
	t.Helper()
	done := false
	task := spawn(t, r, func(self *csp.Task) {
		do(self)
		done = true
	})
	if !r.Step(uint64(len(r.Ready())-1)) || !done {
		t.Fatal("no turn")
	}
	return task
}

// diary is what functions that were handed in were told, in order.
type diary struct {
	lines []string
}

func (d *diary) note(form string, parts ...any) {
	d.lines = append(d.lines, fmt.Sprintf(form, parts...))
}

// reads says what stands in a diary since it was read last.
func (d *diary) reads(t *testing.T, what string, want ...string) {
	t.Helper()
	lists(t, what, d.lines, want...)
	d.lines = nil
}

func (d *diary) told(who string) func(now int64, ok bool) {
	return func(now int64, ok bool) { d.note("%s %d %v", who, now, ok) }
}

// scene is a clock, its runtime, and what is told.
type scene struct {
	diary
	t       *testing.T
	runtime *csp.Runtime
	clock   *Clock
}

func newScene(t *testing.T) *scene {
	t.Helper()
	r := csp.New()
	return &scene{t: t, runtime: r, clock: clockOf(t, r)}
}

// clockOf is a clock of a runtime, which must be made.
func clockOf(t *testing.T, r *csp.Runtime) *Clock {
	t.Helper()
	c, e := New(r)
	if c == nil || e != api.OK {
		t.Fatalf("New: %v, %d", c, e)
	}
	return c
}

// slept is a Sleep of a task, which must have that number.
func (s *scene) slept(self *csp.Task, who string, d int64, no int) {
	s.t.Helper()
	got, e := s.clock.Sleep(self, d, s.told(who))
	answers(s.t, fmt.Sprint(who, ": Sleep ", d), e, api.OK)
	answers(s.t, fmt.Sprint(who, ": number of Sleep ", d), got, no)
}

// sleeps is a new task that sleeps, in its first turn.
func (s *scene) sleeps(who string, d int64, no int) *csp.Task {
	s.t.Helper()
	return within(s.t, s.runtime, func(self *csp.Task) { s.slept(self, who, d, no) })
}

// after is a channel of a timer, which must have that number.
func (s *scene) after(d int64, no int) *chans.Chan[int64] {
	s.t.Helper()
	x, got, e := s.clock.After(d)
	answers(s.t, fmt.Sprint("After ", d), e, api.OK)
	answers(s.t, fmt.Sprint("number of After ", d), got, no)
	if x == nil || x.Runtime() != s.runtime {
		s.t.Fatalf("After %d: %v", d, x)
	}
	return x
}

// receives is a new task that receives from a channel of a timer, in its first turn.
func (s *scene) receives(who string, x *chans.Chan[int64]) *csp.Task {
	s.t.Helper()
	return within(s.t, s.runtime, func(self *csp.Task) {
		answers(s.t, who+": Recv", chans.Recv(self, x, s.told(who)), api.OK)
	})
}

func (s *scene) spawn(f func(self *csp.Task)) *csp.Task {
	s.t.Helper()
	return spawn(s.t, s.runtime, f)
}

// run lets all who are ready have their turns; it tells what they were told.
func (s *scene) run(what string, want ...string) {
	s.t.Helper()
	s.runtime.Run(nil, 999)
	s.reads(s.t, what, want...)
}

// ticks says how many must fire in the tick to a time.
func (s *scene) ticks(now int64, fired int) {
	s.t.Helper()
	answers(s.t, fmt.Sprint("Tick to ", now), s.clock.Tick(), fired)
	answers(s.t, "Now", s.clock.Now(), now)
}

func (s *scene) waits(what string, want int) {
	s.t.Helper()
	answers(s.t, what+": Waits", s.clock.Waits(), want)
}

func (s *scene) stops(no int, want bool) {
	s.t.Helper()
	answers(s.t, fmt.Sprint("Stop ", no), s.clock.Stop(no), want)
}

func (s *scene) stands(what string, ready, parked []int) {
	s.t.Helper()
	stands(s.t, what, s.runtime, ready, parked)
}

func (s *scene) looks(what string, x *chans.Chan[int64], want look) {
	s.t.Helper()
	answers(s.t, what, lookAt(x), want)
}

// gets says what must be received from a channel now.
func (s *scene) gets(what string, x *chans.Chan[int64], want int64, wantOk bool) {
	s.t.Helper()
	v, ok, can := x.TryRecv()
	answers(s.t, what+": TryRecv can", can, true)
	answers(s.t, what+": TryRecv ok", ok, wantOk)
	answers(s.t, what+": TryRecv", v, want)
}

// The chapter's examples.
func TestExamples(t *testing.T) {
	s := newScene(t)
	s.sleeps("a", 2, 0)
	s.sleeps("b", 1, 1)
	c := s.after(2, 2)
	s.waits("three", 3)
	s.ticks(1, 1)
	s.stands("b", []int{1}, []int{0})
	s.run("b", "b 1 true")
	s.looks("c", c, waiting)
	s.ticks(2, 2)
	s.stands("a", []int{0}, nil)
	s.looks("c", c, fired)
	s.gets("c", c, 2, true)
	s.looks("c", c, spent)
	s.gets("c", c, 0, false)
	s.run("a", "a 2 true")
	s.stops(0, false)
	x := s.after(0, 3)
	s.looks("After(0)", x, fired)
	s.gets("After(0)", x, 2, true)
	s.sleeps("d", 5, 4)
	s.stops(4, true)
	s.run("stopped", "d 0 false")
	s.waits("nobody", 0)
}

// P18.1: New of no runtime, and of one that nobody made.
func TestNew(t *testing.T) {
	r := csp.New()
	was := *r
	for name, none := range map[string]*csp.Runtime{"nil": nil, "a zero": {}, "a copy": &was} {
		c, e := New(none)
		if c != nil || e != api.ErrNil {
			t.Errorf("New of %s: %v, %d", name, c, e)
		}
	}
	c := clockOf(t, r)
	answers(t, "Now", c.Now(), 0)
	answers(t, "Waits", c.Waits(), 0)
	within(t, r, func(*csp.Task) { answers(t, "New within a turn", clockOf(t, r).Now(), 0) })
}

// noClocks are clocks that New did not answer. Of those that are copies the timers 0 and 1 wait.
func noClocks(t *testing.T, r *csp.Runtime) map[string]*Clock {
	made := func() *Clock {
		c := clockOf(t, r)
		for range 2 {
			_, _, e := c.After(1)
			answers(t, "After", e, api.OK)
		}
		c.Tick()
		c.After(5)
		return c
	}
	copied := *made()
	laid := made()
	*laid = *made()
	return map[string]*Clock{"nil": nil, "a zero": {}, "a copy": &copied, "one laid over": laid}
}

// R5: every call of a clock that is none.
func TestNoClock(t *testing.T) {
	r := csp.New()
	for name, c := range noClocks(t, r) {
		answers(t, name+": Now", c.Now(), 0)
		answers(t, name+": Waits", c.Waits(), 0)
		for range 9 {
			answers(t, name+": Tick", c.Tick(), 0)
		}
		for no := range 4 {
			answers(t, name+": Stop", c.Stop(no), false)
		}
		for _, d := range []int64{math.MinInt64, -1, 0, 1, longest, longest + 1, math.MaxInt64} {
			x, no, e := c.After(d)
			if x != nil || no != 0 || e != api.ErrNil {
				t.Errorf("%s: After %d: %v, %d, %d", name, d, x, no, e)
			}
			task := within(t, r, func(self *csp.Task) {
				no, e := c.Sleep(self, d, func(int64, bool) { t.Error("told") })
				answers(t, name+": number", no, 0)
				answers(t, name+": Sleep", e, api.ErrNil)
			})
			answers(t, name+": it is over", task.Over(), true)
		}
	}
}

// noTasks are tasks that Spawn did not answer.
func noTasks(self *csp.Task) map[string]*csp.Task {
	c := *self
	return map[string]*csp.Task{"nil": nil, "a zero": {}, "a copy": &c}
}

// refuses says that a Sleep must be refused, and that nothing changes: of the clock, of the runtimes' tasks, and of the numbers that timers get.
func (s *scene) refuses(what string, c *Clock, task *csp.Task, d int64, then func(now int64, ok bool), want api.Errno, others ...*csp.Runtime) {
	s.t.Helper()
	runtimes := append(others, s.runtime)
	var ready, parked [][]int
	for _, r := range runtimes {
		ready, parked = append(ready, r.Ready()), append(parked, r.Parked())
	}
	waits, now, told := s.clock.Waits(), s.clock.Now(), len(s.lines)
	for range 2 {
		no, e := c.Sleep(task, d, then)
		answers(s.t, what, e, want)
		answers(s.t, what+": number", no, 0)
		s.waits(what, waits)
		answers(s.t, what+": Now", s.clock.Now(), now)
		for i, r := range runtimes {
			stands(s.t, what, r, ready[i], parked[i])
		}
	}
	answers(s.t, what+": told", len(s.lines), told)
}

// delays are some of which the first are above the greatest.
var (
	tooLong = []int64{longest + 1, longest + 2, 1 << 41, 1 << 62, math.MaxInt64}
	delays  = []int64{longest, longest - 1, 7, 1, 0, -1, -longest, -longest - 1, math.MinInt64 + 1, math.MinInt64}
)

// P18.2: each error of Sleep, and that beside it nothing changes; those that are told first, beside all that would be told behind them.
func TestSleepRefused(t *testing.T) {
	s := newScene(t)
	s.sleeps("first", 3, 0)
	other := csp.New()
	foreign := spawn(t, other, func(*csp.Task) {})
	gone := within(t, s.runtime, func(*csp.Task) {})
	idle := s.spawn(func(*csp.Task) {})
	parked := within(t, s.runtime, func(self *csp.Task) { self.Park(func(int) {}) })
	then := s.told("never")
	within(t, s.runtime, func(self *csp.Task) {
		for _, d := range slices.Concat(tooLong, delays) {
			for name, none := range noTasks(self) {
				s.refuses(name, s.clock, none, d, then, api.ErrNil)
				s.refuses(name+", no function", s.clock, none, d, nil, api.ErrNil)
			}
			for _, task := range []*csp.Task{self, foreign, gone, idle, parked} {
				s.refuses("no function", s.clock, task, d, nil, api.ErrNil, other)
				s.refuses("no clock", nil, task, d, then, api.ErrNil, other)
				s.refuses("a zero clock", &Clock{}, task, d, then, api.ErrNil, other)
			}
		}
		for _, d := range tooLong {
			for _, task := range []*csp.Task{self, foreign, gone, idle, parked} {
				s.refuses("too long", s.clock, task, d, then, api.ErrArg, other)
			}
		}
		for _, d := range delays {
			s.refuses("another runtime", s.clock, foreign, d, then, api.ErrOther, other)
			s.refuses("over", s.clock, gone, d, then, api.ErrOver)
			s.refuses("ready", s.clock, idle, d, then, api.ErrOver)
			s.refuses("parked", s.clock, parked, d, then, api.ErrOver)
		}
		s.slept(self, "self", 2, 1)
		for _, d := range delays {
			s.refuses("said", s.clock, self, d, then, api.ErrBusy)
		}
		for _, d := range tooLong {
			s.refuses("said, too long", s.clock, self, d, then, api.ErrArg)
		}
	})
	for range 9 {
		s.clock.Tick()
	}
	s.run("none of them is told", "self 2 true", "first 3 true")
	s.after(1, 2)
}

// P18.2: a task of another runtime, in its turn there, over, parked or having said how it goes on.
func TestSleepElsewhere(t *testing.T) {
	s := newScene(t)
	other := csp.New()
	within(t, other, func(self *csp.Task) {
		within(t, s.runtime, func(*csp.Task) {
			s.refuses("running", s.clock, self, 1, s.told("never"), api.ErrOther, other)
			s.refuses("running, too long", s.clock, self, longest+1, s.told("never"), api.ErrArg, other)
		})
		self.Park(func(int) {})
		s.refuses("said", s.clock, self, 1, s.told("never"), api.ErrOther, other)
	})
	over := within(t, other, func(*csp.Task) {})
	s.refuses("over", s.clock, over, 1, s.told("never"), api.ErrOther, other)
	s.after(1, 0)
}

// P18.2: a task that has said how it goes on, in each way, may not say it by a Sleep, and goes on as it said.
func TestSleepBehindSaying(t *testing.T) {
	for _, d := range delays {
		s := newScene(t)
		full, e := chans.Make[int64](s.runtime, 1)
		answers(t, "Make", e, api.OK)
		says := map[string]func(self *csp.Task) api.Errno{
			"yield": func(self *csp.Task) api.Errno { return self.Yield(func() { s.note("yielded") }) },
			"park":  func(self *csp.Task) api.Errno { return self.Park(func(why int) { s.note("parked %d", why) }) },
			"recv":  func(self *csp.Task) api.Errno { return chans.Recv(self, full, s.told("got")) },
			"woken": func(self *csp.Task) api.Errno {
				self.Park(func(why int) { s.note("parked %d", why) })
				return self.Wake(4)
			},
		}
		tasks := map[string]*csp.Task{}
		for _, name := range []string{"yield", "park", "recv", "woken"} {
			tasks[name] = within(t, s.runtime, func(self *csp.Task) {
				answers(t, name, says[name](self), api.OK)
				s.refuses(name, s.clock, self, d, s.told("never"), api.ErrBusy)
			})
		}
		s.run("ready ones", "yielded", "parked 4")
		tasks["park"].Wake(3)
		full.TrySend(9)
		s.run("parked ones", "parked 3", "got 9 true")
	}
}

// P18.3: After of the same delays; beside an error no number is used up.
func TestAfterRefused(t *testing.T) {
	s := newScene(t)
	s.sleeps("first", 3, 0)
	for _, d := range tooLong {
		x, no, e := s.clock.After(d)
		if x != nil || no != 0 || e != api.ErrArg {
			t.Errorf("After %d: %v, %d, %d", d, x, no, e)
		}
		s.waits("refused", 1)
	}
	for i, d := range delays {
		x := s.after(d, i+1)
		if d > 0 {
			s.looks("it waits", x, waiting)
		} else {
			s.looks("it fired", x, fired)
		}
	}
	s.waits("those above 0", 5)
	s.stands("nobody got ready", nil, []int{0})
}

// P18.2: the delays that may be: those above 0 park, the others yield behind all others, and are told in the next turn.
func TestSleepDelays(t *testing.T) {
	s := newScene(t)
	for range 5 {
		s.clock.Tick()
	}
	for i, d := range delays {
		other := s.spawn(func(*csp.Task) { s.note("other") })
		task := s.sleeps("it", d, i)
		what := fmt.Sprint("delay ", d)
		if d > 0 {
			s.stands(what, []int{other.Id()}, []int{task.Id()})
			s.waits(what, 1)
			s.run(what, "other")
			s.stops(i, true)
			s.run(what, "it 0 false")
		} else {
			s.stands(what, []int{other.Id(), task.Id()}, nil)
			s.waits(what, 0)
			s.stops(i, false)
			s.run(what, "other", "it 5 true")
		}
		answers(t, what+": over", task.Over(), true)
	}
}

// P18.2: a delay of 0 tells the Now at which the timer was made, even if it is later by its turn.
func TestSleepTellsItsOwnNow(t *testing.T) {
	s := newScene(t)
	s.ticks(1, 0)
	s.sleeps("none", 0, 0)
	s.ticks(2, 0)
	s.run("none", "none 1 true")
	s.sleeps("one", 1, 1)
	s.ticks(3, 1)
	s.ticks(4, 0)
	s.run("one", "one 3 true")
}

// P18.2, P18.3: numbers are shared, and used up in turn, by timers that fire at once too, that fired, and that were stopped.
func TestNumbers(t *testing.T) {
	s := newScene(t)
	s.sleeps("a", 1, 0)
	s.after(1, 1)
	s.sleeps("b", 0, 2)
	s.after(-5, 3)
	s.stops(1, true)
	s.ticks(1, 1)
	s.run("both", "b 0 true", "a 1 true")
	s.after(2, 4)
	s.sleeps("c", 2, 5)
	s.clock.After(longest + 1)
	s.sleeps("d", math.MinInt64, 6)
	s.after(longest, 7)
}

// P18.1: Waits behind each call.
func TestWaits(t *testing.T) {
	s := newScene(t)
	s.waits("new", 0)
	s.sleeps("a", 2, 0)
	s.waits("Sleep", 1)
	s.after(1, 1)
	s.waits("After", 2)
	s.after(0, 2)
	s.sleeps("b", 0, 3)
	s.waits("at once", 2)
	s.after(9, 4)
	s.sleeps("c", 9, 5)
	s.waits("two more", 4)
	s.stops(4, true)
	s.waits("Stop of a channel", 3)
	s.stops(4, false)
	s.stops(3, false)
	s.waits("Stop of none", 3)
	s.ticks(1, 1)
	s.waits("the tick to 1", 2)
	s.ticks(2, 1)
	s.waits("the tick to 2", 1)
	s.stops(5, true)
	s.waits("Stop of a sleeper", 0)
	s.run("all", "b 0 true", "a 2 true", "c 0 false")
	s.waits("all told", 0)
}

// rows are all orders of so many things.
func rows(n int) [][]int {
	if n == 0 {
		return [][]int{nil}
	}
	var all [][]int
	for _, shorter := range rows(n - 1) {
		for place := range n {
			all = append(all, slices.Insert(slices.Clone(shorter), place, n-1))
		}
	}
	return all
}

// P18.5, P18.6: timers of unlike delays, made in any order, some at later times: they fire in the tick to their times, those of the same time by their numbers.
func TestOrder(t *testing.T) {
	for _, delays := range [][]int64{{1, 2, 2, 3, 3}, {1, 1, 1, 1, 1}, {3, 1, 3, 1, 2}} {
		for _, order := range rows(len(delays)) {
			for later := range len(delays) {
				s := newScene(t)
				due := map[int64][]string{}
				parked := map[int64][]int{}
				for no, i := range order {
					if no == later {
						s.ticks(1, len(due[1]))
					}
					when := s.clock.Now() + delays[i]
					task := s.sleeps(fmt.Sprint("s", no), delays[i], no)
					due[when] = append(due[when], fmt.Sprintf("s%d %d true", no, when))
					parked[when] = append(parked[when], task.Id())
				}
				got := len(s.runtime.Ready())
				for now := s.clock.Now() + 1; now < 7; now++ {
					s.ticks(now, len(due[now]))
					lists(t, fmt.Sprint(order, now), s.runtime.Ready()[got:], parked[now]...)
					got += len(parked[now])
				}
				s.run(fmt.Sprint(delays, order, later), slices.Concat(due[1], due[2], due[3], due[4])...)
				s.waits("all fired", 0)
			}
		}
	}
}

// P18.5: in a tick, sleepers and those who receive from channels of timers get ready by the timers' numbers.
func TestOrderOfBothKinds(t *testing.T) {
	for _, order := range rows(4) {
		s := newScene(t)
		var want []int
		for no, i := range order {
			if i < 2 {
				want = append(want, s.sleeps("sleeper", 2, no).Id())
				continue
			}
			x := s.after(2, no)
			want = append(want, s.receives("first", x).Id(), s.receives("second", x).Id())
		}
		s.ticks(1, 0)
		s.ticks(2, 4)
		s.stands(fmt.Sprint(order), want, nil)
	}
}

// P18.4: numbers that are not there.
func TestStopOfNone(t *testing.T) {
	s := newScene(t)
	none := []int{math.MinInt, -2, -1, 0, 1, 2, math.MaxInt}
	for _, no := range none {
		s.stops(no, false)
	}
	s.sleeps("a", 1, 0)
	s.after(1, 1)
	for _, no := range none {
		if no < 0 || no > 1 {
			s.stops(no, false)
		}
	}
	s.waits("both", 2)
	s.ticks(1, 2)
	for _, no := range none {
		s.stops(no, false)
	}
	s.run("told once", "a 1 true")
}

// P18.4: those that fired, or were stopped; what the stopped are told, once; they never fire.
func TestStop(t *testing.T) {
	s := newScene(t)
	a := s.sleeps("a", 3, 0)
	x := s.after(3, 1)
	s.sleeps("b", 3, 2)
	y := s.after(3, 3)
	s.ticks(1, 0)
	s.stops(0, true)
	s.stands("a got ready", []int{a.Id()}, []int{1})
	s.stops(0, false)
	s.stops(1, true)
	s.looks("x is closed", x, spent)
	s.gets("x", x, 0, false)
	s.stops(1, false)
	s.looks("y waits", y, waiting)
	s.ticks(2, 0)
	s.ticks(3, 2)
	s.looks("x", x, spent)
	s.looks("y", y, fired)
	for no := range 5 {
		s.stops(no, false)
	}
	s.run("each once", "a 0 false", "b 3 true")
	s.ticks(4, 0)
	s.run("none again")
	s.gets("y", y, 3, true)
}

// P18.4: of some timers of the same times any are stopped, in any order: the others fire by their numbers.
func TestStopOfAny(t *testing.T) {
	const count = 6
	for which := range 1 << count {
		for _, backwards := range []bool{false, true} {
			s := newScene(t)
			var stopped, first, second []string
			for no := range count {
				s.sleeps(fmt.Sprint(no), int64(1+no%2), no)
			}
			for i := range count {
				no := i
				if backwards {
					no = count - 1 - i
				}
				if which>>no&1 == 1 {
					s.stops(no, true)
					s.stops(no, false)
					stopped = append(stopped, fmt.Sprint(no, " 0 false"))
				}
			}
			for no := range count {
				if line := fmt.Sprint(no, " ", 1+no%2, " true"); which>>no&1 == 0 && no%2 == 0 {
					first = append(first, line)
				} else if which>>no&1 == 0 {
					second = append(second, line)
				}
			}
			s.waits("the others", count-len(stopped))
			s.ticks(1, len(first))
			s.ticks(2, len(second))
			s.run(fmt.Sprintf("%b", which), slices.Concat(stopped, first, second)...)
		}
	}
}

// P18.2: a sleeper that somebody else wakes, once or more, is told behind its timer's firing or being stopped, and of that alone.
func TestWoken(t *testing.T) {
	for _, stop := range []bool{false, true} {
		for woken := range 4 {
			s := newScene(t)
			task := s.sleeps("a", 2, 0)
			end := func() {
				if stop {
					s.stops(0, true)
				} else {
					s.ticks(1, 0)
					s.ticks(2, 1)
				}
			}
			for i := range woken {
				answers(t, "Wake", task.Wake(i), api.OK)
				answers(t, "Wake of a ready one", task.Wake(i), api.ErrOver)
				s.run("it is not told")
				s.stands("it parks again", nil, []int{0})
				s.waits("its timer waits", 1)
			}
			end()
			s.stands("it gets ready", []int{0}, nil)
			want := map[bool]string{false: "a 2 true", true: "a 0 false"}[stop]
			s.run("it is told", want)
			answers(t, "over", task.Over(), true)
		}
	}
}

// P18.2: a sleeper that somebody else has woken, and that is ready when its timer fires or is stopped, is told in that turn.
func TestReadyAlready(t *testing.T) {
	for _, stop := range []bool{false, true} {
		s := newScene(t)
		task := s.sleeps("a", 1, 0)
		s.spawn(func(*csp.Task) { s.note("other") })
		answers(t, "Wake", task.Wake(7), api.OK)
		s.stands("ready already", []int{1, 0}, nil)
		want := "a 1 true"
		if stop {
			s.stops(0, true)
			want = "a 0 false"
		} else {
			s.ticks(1, 1)
		}
		s.stands("ready once", []int{1, 0}, nil)
		s.ticks(s.clock.Now()+1, 0)
		s.run("told", "other", want)
		s.stands("over", nil, nil)
	}
}

// P18.2: the task that woke a sleeper in its own turn; and a sleeper that was woken in the very turn in which it went to sleep.
func TestWokenInATurn(t *testing.T) {
	s := newScene(t)
	task := within(t, s.runtime, func(self *csp.Task) {
		s.slept(self, "a", 1, 0)
		answers(t, "Wake", self.Wake(5), api.OK)
		s.refuses("said", s.clock, self, 1, s.told("never"), api.ErrBusy)
	})
	s.stands("woken", []int{0}, nil)
	s.run("it parks again")
	within(t, s.runtime, func(*csp.Task) { answers(t, "Wake", task.Wake(5), api.OK) })
	s.run("again")
	s.ticks(1, 1)
	s.run("told", "a 1 true")
}

// P18.4, P18.5: the clock may be ticked, and timers stopped, within a turn, in that of the sleeper too.
func TestWithinATurn(t *testing.T) {
	s := newScene(t)
	s.sleeps("a", 1, 0)
	within(t, s.runtime, func(self *csp.Task) {
		s.slept(self, "b", 1, 1)
		s.stands("parked", nil, []int{0, 1})
		s.ticks(1, 2)
		s.stands("ready in its own turn", []int{0, 1}, nil)
		s.stops(1, false)
		s.refuses("said", s.clock, self, 1, s.told("never"), api.ErrBusy)
	})
	s.run("told", "a 1 true", "b 1 true")
	within(t, s.runtime, func(self *csp.Task) {
		s.slept(self, "c", 1, 2)
		s.stops(2, true)
		s.stands("ready in its own turn", []int{2}, nil)
	})
	s.run("told", "c 0 false")
}

// P18.2: a task that is told can sleep again, or not; each time it is told once.
func TestSleepAgain(t *testing.T) {
	s := newScene(t)
	no := 0
	s.spawn(func(self *csp.Task) {
		var again func(now int64, ok bool)
		again = func(now int64, ok bool) {
			s.note("%d %v", now, ok)
			if no == 4 {
				return
			}
			got, e := s.clock.Sleep(self, int64(no%3), again)
			answers(t, "Sleep", e, api.OK)
			answers(t, "number", got, no)
			no++
		}
		again(-1, false)
	})
	s.run("a delay of 0, then one of 1", "-1 false", "0 true")
	s.ticks(1, 1)
	s.run("one of 2", "1 true")
	s.ticks(2, 0)
	s.run("it sleeps")
	s.stops(2, true)
	s.run("then one of 0", "0 false", "2 true")
	s.stands("over", nil, nil)
}

// P18.2: in the turn that calls then, the task may say how it goes on, once, in other ways too, and do with the clock what it likes.
func TestThenGoesOn(t *testing.T) {
	s := newScene(t)
	var x *chans.Chan[int64]
	task := within(t, s.runtime, func(self *csp.Task) {
		_, e := s.clock.Sleep(self, 1, func(now int64, ok bool) {
			s.note("told %d %v", now, ok)
			s.stops(0, false)
			s.ticks(2, 0)
			x = s.after(2, 1)
			answers(t, "Yield", self.Yield(func() { s.note("yielded") }), api.OK)
			s.refuses("said", s.clock, self, 1, s.told("never"), api.ErrBusy)
		})
		answers(t, "Sleep", e, api.OK)
	})
	s.ticks(1, 1)
	s.run("all", "told 1 true", "yielded")
	answers(t, "over", task.Over(), true)
	s.ticks(3, 0)
	s.ticks(4, 1)
	s.gets("x", x, 4, true)
}

// P18.3: a channel that is received from ahead of the tick, by none, by one, by many: the first one is told Now and true, the others nothing and false.
func TestReceivedAhead(t *testing.T) {
	for _, stop := range []bool{false, true} {
		for count := range 4 {
			s := newScene(t)
			s.ticks(1, 0)
			x := s.after(1, 0)
			var want []string
			var ready []int
			for i := range count {
				who := fmt.Sprint("r", i)
				ready = append(ready, s.receives(who, x).Id())
				if want = append(want, who+" 0 false"); i == 0 && !stop {
					want[0] = "r0 2 true"
				}
			}
			s.stands("they wait", nil, ready)
			s.looks("they wait", x, look{cap: 1, receivers: count, canSend: true})
			behind := spent
			if stop {
				s.stops(0, true)
			} else {
				s.ticks(2, 1)
				if count == 0 {
					behind = fired
				}
			}
			s.stands("they get ready", ready, nil)
			s.looks("behind", x, behind)
			s.run("they are told", want...)
		}
	}
}

// P18.3: a channel that is received from behind the tick, whatever Now is by then; and behind Stop.
func TestReceivedBehind(t *testing.T) {
	s := newScene(t)
	x, y := s.after(1, 0), s.after(1, 1)
	s.stops(1, true)
	s.ticks(1, 1)
	s.ticks(2, 0)
	s.ticks(3, 0)
	for i, c := range []*chans.Chan[int64]{x, y} {
		for j := range 2 {
			s.receives(fmt.Sprintf("r%d%d", i, j), c)
		}
	}
	s.run("told", "r00 1 true", "r01 0 false", "r10 0 false", "r11 0 false")
	s.looks("x", x, spent)
	answers(t, "Close of a fired one", x.Close(), api.ErrClosed)
	answers(t, "Close of a stopped one", y.Close(), api.ErrClosed)
	ok, can := x.TrySend(5)
	answers(t, "TrySend", ok, false)
	answers(t, "TrySend can", can, true)
}

// P18.3: a delay of 0 or less: a channel with Now in it, closed.
func TestAfterNothing(t *testing.T) {
	s := newScene(t)
	for now := range int64(3) {
		for i, d := range []int64{0, -1, math.MinInt64} {
			x := s.after(d, int(now)*3+i)
			s.looks("fired", x, fired)
			s.waits("none", 0)
			s.stops(int(now)*3+i, false)
			s.gets("x", x, now, true)
			s.gets("x", x, 0, false)
		}
		s.ticks(now+1, 0)
	}
}

// P18.3: a task waits in a Select for a channel or for a time, whichever is first.
func TestTimeout(t *testing.T) {
	for _, late := range []bool{false, true} {
		s := newScene(t)
		answer, e := chans.Make[int64](s.runtime, 0)
		answers(t, "Make", e, api.OK)
		x := s.after(2, 0)
		within(t, s.runtime, func(self *csp.Task) {
			cases := []sel.Case{sel.OnRecv(answer, s.told("answer")), sel.OnRecv(x, s.told("too late"))}
			answers(t, "Select", sel.Select(self, cases, nil), api.OK)
		})
		s.ticks(1, 0)
		if late {
			s.ticks(2, 1)
			s.run("late", "too late 2 true")
			s.looks("x", x, spent)
			continue
		}
		ok, can := answer.TrySend(9)
		answers(t, "TrySend", ok && can, true)
		s.run("in time", "answer 9 true")
		s.ticks(2, 1)
		s.looks("x", x, fired)
	}
}

// P18.3: a channel that somebody else has sent into or closed ahead of its timer: what was sent there stays, and is told ahead of the close.
func TestMeddled(t *testing.T) {
	for _, stop := range []bool{false, true} {
		s := newScene(t)
		sent, shut, both := s.after(1, 0), s.after(1, 1), s.after(1, 2)
		sent.TrySend(50)
		within(t, s.runtime, func(self *csp.Task) {
			chans.Send(self, sent, 51, func(ok bool) { s.note("sender %v", ok) })
		})
		shut.Close()
		both.TrySend(60)
		both.Close()
		if stop {
			for no := range 3 {
				s.stops(no, true)
			}
		} else {
			s.ticks(1, 3)
		}
		s.run("the sender", "sender false")
		s.waits("none", 0)
		s.gets("sent", sent, 50, true)
		s.gets("shut", shut, 0, false)
		s.gets("both", both, 60, true)
		for _, x := range []*chans.Chan[int64]{sent, shut, both} {
			s.looks("closed, and empty", x, spent)
		}
	}
}

// P18.5: ticks in which nothing is due.
func TestTickWithNothing(t *testing.T) {
	s := newScene(t)
	for now := range int64(300) {
		s.ticks(now+1, 0)
	}
	s.sleeps("a", 5, 0)
	for now := range int64(4) {
		s.ticks(301+now, 0)
		s.stands("it sleeps", nil, []int{0})
	}
	s.ticks(305, 1)
	s.ticks(306, 0)
	s.run("told", "a 305 true")
}

// P18.5: at Now 2^62 a tick does nothing; ahead of it, timers of the greatest delay are made, and never fire.
func TestTheEnd(t *testing.T) {
	s := newScene(t)
	s.clock.now = 1<<62 - 2
	s.sleeps("a", 2, 0)
	x := s.after(longest, 1)
	y := s.after(3, 2)
	s.ticks(1<<62-1, 0)
	s.ticks(1<<62, 1)
	z := s.after(longest, 3)
	for range 5 {
		s.ticks(1<<62, 0)
	}
	s.waits("those that are never due", 3)
	for _, c := range []*chans.Chan[int64]{x, y, z} {
		s.looks("it waits", c, waiting)
	}
	s.looks("none", s.after(0, 4), fired)
	s.sleeps("b", 0, 5)
	s.run("told", fmt.Sprint("a ", 1<<62, " true"), fmt.Sprint("b ", 1<<62, " true"))
	s.stops(1, true)
	s.stops(3, true)
	s.waits("y", 1)
}

// P18.6: the greatest delay is due then, and not ahead of it.
func TestLongest(t *testing.T) {
	s := newScene(t)
	s.clock.now = 9
	s.sleeps("a", longest, 0)
	s.clock.now = longest + 7
	s.ticks(longest+8, 0)
	s.ticks(longest+9, 1)
	s.run("told", fmt.Sprint("a ", longest+9, " true"))
}

// Two clocks of one runtime have their own times, timers and numbers; so have those of two runtimes.
func TestTwoClocks(t *testing.T) {
	a := newScene(t)
	b := &scene{t: t, runtime: a.runtime, clock: clockOf(t, a.runtime)}
	c := newScene(t)
	a.sleeps("a0", 1, 0)
	b.sleeps("b0", 1, 0)
	c.sleeps("c0", 1, 0)
	x := b.after(2, 1)
	a.ticks(1, 1)
	answers(t, "b's Now", b.clock.Now(), 0)
	a.run("a", "a0 1 true")
	a.stops(0, false)
	b.stops(1, true)
	b.looks("x", x, spent)
	a.stops(1, false)
	b.waits("b0", 1)
	c.waits("c0", 1)
	a.sleeps("a1", 1, 1)
	b.ticks(1, 1)
	a.waits("a1", 1)
	b.run("b", "b0 1 true")
	a.reads(t, "a is not told")
	within(t, c.runtime, func(self *csp.Task) {
		a.refuses("of another runtime", a.clock, self, 1, a.told("never"), api.ErrOther, c.runtime)
		c.slept(self, "c1", 1, 1)
	})
	c.ticks(1, 2)
	c.run("c", "c0 1 true", "c1 1 true")
}

// One task may sleep by either of two clocks, one behind the other; a timer of the one is not one of the other.
func TestOneTaskTwoClocks(t *testing.T) {
	s := newScene(t)
	other := clockOf(t, s.runtime)
	s.spawn(func(self *csp.Task) {
		s.clock.Sleep(self, 1, func(now int64, ok bool) {
			s.note("one %d %v", now, ok)
			_, e := other.Sleep(self, 1, s.told("other"))
			answers(t, "Sleep", e, api.OK)
			s.refuses("said", s.clock, self, 1, s.told("never"), api.ErrBusy)
		})
	})
	s.run("it sleeps")
	answers(t, "Tick of the other", other.Tick(), 0)
	s.ticks(1, 1)
	s.run("told by one", "one 1 true")
	s.ticks(2, 0)
	s.run("not by one again")
	answers(t, "Tick of the other", other.Tick(), 1)
	s.run("told by the other", "other 2 true")
}

// waitsWith has somebody wait to receive, who does something as soon as he is served.
func waitsWith(t *testing.T, x *chans.Chan[int64], do func()) {
	t.Helper()
	answers(t, "WaitRecv", x.WaitRecv(chans.NewTicket(do), func(int64, bool) {}), api.OK)
}

// P18.4, P18.5: whoever is served at a channel in the midst of a tick may stop timers that are due in it, too: these never fire, and do not count.
func TestStopInATick(t *testing.T) {
	s := newScene(t)
	x := s.after(1, 0)
	s.sleeps("a", 1, 1)
	s.sleeps("b", 1, 2)
	s.sleeps("c", 2, 3)
	waitsWith(t, x, func() {
		s.note("served at %d", s.clock.Now())
		s.waits("without x", 3)
		s.stops(0, false)
		s.stops(1, true)
		s.stops(3, true)
	})
	s.ticks(1, 2)
	s.run("told", "served at 1", "a 0 false", "c 0 false", "b 1 true")
	s.waits("none", 0)
}

// P18.2, P18.3, P18.5: whoever is served in the midst of a tick may make timers: those of no delay fire at once and do not count, the others not in this tick.
func TestMakeInATick(t *testing.T) {
	s := newScene(t)
	x := s.after(1, 0)
	s.sleeps("a", 1, 1)
	var now, later *chans.Chan[int64]
	waitsWith(t, x, func() {
		now, later = s.after(0, 2), s.after(1, 3)
		s.looks("now", now, fired)
	})
	s.ticks(1, 2)
	s.gets("now", now, 1, true)
	s.looks("later", later, waiting)
	s.ticks(2, 1)
	s.gets("later", later, 2, true)
	s.run("a", "a 1 true")
}

// P18.5: whoever is served in the midst of a tick may tick: the rest of those that are due fires in that tick, those first that were due first.
func TestTickInATick(t *testing.T) {
	s := newScene(t)
	x := s.after(1, 0)
	c := s.sleeps("c", 2, 1)
	a := s.sleeps("a", 1, 2)
	b := s.sleeps("b", 2, 3)
	waitsWith(t, x, func() { s.ticks(2, 3) })
	s.ticks(2, 1)
	s.stands("those first that were due first", []int{a.Id(), c.Id(), b.Id()}, nil)
	s.run("told", "a 2 true", "c 2 true", "b 2 true")
	s.ticks(3, 0)
}

// P18.4: whoever is served by a Stop may go on to other calls, too.
func TestServedByStop(t *testing.T) {
	s := newScene(t)
	x := s.after(5, 0)
	s.sleeps("a", 5, 1)
	waitsWith(t, x, func() {
		s.stops(0, false)
		s.stops(1, true)
		s.waits("none", 0)
		s.after(1, 2)
	})
	s.stops(0, true)
	s.ticks(1, 1)
	s.run("told", "a 0 false")
}

// As many tasks as there may be sleep, and get ready by their numbers.
func TestAllTasksSleep(t *testing.T) {
	s := newScene(t)
	var want []string
	for no := range api.MaxTasks {
		s.sleeps(fmt.Sprint(no), 3, no)
		want = append(want, fmt.Sprint(no, " 3 true"))
	}
	s.ticks(1, 0)
	s.ticks(2, 0)
	s.ticks(3, api.MaxTasks)
	s.run("all", want...)
}

// What is exported is what the chapter lists, and nothing of a clock can be reached past it.
func TestFace(t *testing.T) {
	clock := reflect.TypeFor[*Clock]()
	var calls []string
	for i := range clock.NumMethod() {
		calls = append(calls, clock.Method(i).Name)
	}
	lists(t, "calls", calls, "After", "Now", "Sleep", "Stop", "Tick", "Waits")
	for i := range clock.Elem().NumField() {
		if f := clock.Elem().Field(i); f.IsExported() || f.Anonymous {
			t.Errorf("field %s", f.Name)
		}
	}
}
