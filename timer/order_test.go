package timer

import (
	"cmp"
	"fmt"
	"runtime"
	"slices"
	"testing"
	"weak"

	"conduit/api"
	"conduit/chans"
	"conduit/csp"
)

// served is when somebody who waits for a timer was told, and what: a time of -1 is a Stop.
type served struct {
	no  int
	now int64
}

// crowd is a clock at whose channels somebody waits each, by a ticket, and what these were told, in order.
type crowd struct {
	clock *Clock
	due   []served
	told  []served
}

func (c *crowd) after(t *testing.T, d int64) {
	t.Helper()
	x, no, e := c.clock.After(d)
	answers(t, "After", e, api.OK)
	answers(t, "number", no, len(c.due))
	c.due = append(c.due, served{no, c.clock.Now() + d})
	e = x.WaitRecv(chans.NewTicket(func() {}), func(now int64, ok bool) {
		if !ok {
			now = -1
		}
		c.told = append(c.told, served{no, now})
	})
	answers(t, "WaitRecv", e, api.OK)
}

// P18.5, P18.6: of many timers of drawn delays, made at unlike times, some of which are stopped, each other one fires in the tick to its time, those of the same time by their numbers.
func TestManyTimers(t *testing.T) {
	for seed := range uint64(30) {
		next := row(seed)
		c := &crowd{clock: clockOf(t, csp.New())}
		stopped := map[int]bool{}
		longest := 1 + next(200)
		for range 300 {
			for range next(12) {
				c.after(t, int64(1+next(longest)))
			}
			for range next(6) {
				if no := next(len(c.due) + 2); c.clock.Stop(no) {
					answers(t, "it is told", c.told[len(c.told)-1], served{no, -1})
					answers(t, "it was not stopped yet", stopped[no], false)
					stopped[no] = true
					c.told = c.told[:len(c.told)-1]
				}
			}
			was := len(c.told)
			answers(t, "Tick", c.clock.Tick(), len(c.told)-was)
		}
		for c.clock.Waits() > 0 {
			c.clock.Tick()
		}
		want := slices.DeleteFunc(slices.Clone(c.due), func(w served) bool { return stopped[w.no] })
		slices.SortStableFunc(want, func(a, b served) int { return cmp.Compare(a.now, b.now) })
		lists(t, fmt.Sprint("seed ", seed), c.told, want...)
	}
}

// everyPick lets tasks go on by all rows of picks that there are; it tells how many.
func everyPick(begin func() (*csp.Runtime, func(picks []uint64))) int {
	var picks []uint64
	for count := 1; ; count++ {
		r, end := begin()
		var ready []uint64
		for n := len(r.Ready()); n > 0; n = len(r.Ready()) {
			if len(ready) == len(picks) {
				picks = append(picks, 0)
			}
			r.Step(picks[len(ready)])
			ready = append(ready, uint64(n))
		}
		end(picks)
		for last := len(picks) - 1; ; last-- {
			if last < 0 {
				return count
			}
			if picks[last]++; picks[last] < ready[last] {
				picks = picks[:last+1]
				break
			}
		}
	}
}

// ticker is a task that ticks so often, once a turn.
func (s *scene) ticker(ticks int) {
	s.spawn(func(self *csp.Task) {
		left := ticks
		var next func()
		next = func() {
			s.clock.Tick()
			if left--; left > 0 {
				answers(s.t, "Yield", self.Yield(next), api.OK)
			}
		}
		next()
	})
}

// napper is a task that sleeps so long, again and again; it tells what it was told, held against when it went to sleep.
func (s *scene) napper(what string, delays ...int64) *[]int64 {
	told := &[]int64{}
	s.spawn(func(self *csp.Task) {
		left := delays
		var next func()
		next = func() {
			if len(left) == 0 {
				return
			}
			due := s.clock.Now() + left[0]
			_, e := s.clock.Sleep(self, left[0], func(now int64, ok bool) {
				answers(s.t, what+": fired", ok, true)
				answers(s.t, what+": told Now", now, due)
				answers(s.t, what+": it is due by now", s.clock.Now() >= due, true)
				*told = append(*told, now)
				next()
			})
			answers(s.t, what+": Sleep", e, api.OK)
			left = left[1:]
		}
		next()
	})
	return told
}

// P18.2, P18.6: by no picks somebody is told early, twice, or of another time than that at which the timer was due.
func TestEveryPick(t *testing.T) {
	tried := everyPick(func() (*csp.Runtime, func(picks []uint64)) {
		s := newScene(t)
		s.ticker(4)
		first, second := s.napper("first", 1, 0, 2), s.napper("second", 2, 1)
		s.receives("r", s.after(2, 0))
		return s.runtime, func(picks []uint64) {
			what := fmt.Sprint("picks ", picks)
			s.reads(t, what, "r 2 true")
			answers(t, what+": Now", s.clock.Now(), 4)
			for range 5 {
				s.clock.Tick()
				s.runtime.Run(nil, 9)
			}
			answers(t, what+": told the first", len(*first), 3)
			answers(t, what+": told the second", len(*second), 2)
			s.stands(what, nil, nil)
		}
	})
	if tried < 100 {
		t.Errorf("%d rows of picks alone", tried)
	}
}

// P18.2, P18.4: by no picks a sleeper that is stopped and woken by others at any time is told twice, or not at all.
func TestEveryPickWithStop(t *testing.T) {
	tried := everyPick(func() (*csp.Runtime, func(picks []uint64)) {
		s := newScene(t)
		stopped := false
		made := -1
		task := s.spawn(func(self *csp.Task) {
			no, e := s.clock.Sleep(self, 1, s.told("a"))
			answers(t, "Sleep", e, api.OK)
			made = no
		})
		s.spawn(func(*csp.Task) { stopped = s.clock.Stop(made) })
		s.spawn(func(self *csp.Task) {
			task.Wake(7)
			answers(t, "Yield", self.Yield(func() { task.Wake(8) }), api.OK)
		})
		s.ticker(2)
		return s.runtime, func(picks []uint64) {
			for range 3 {
				s.clock.Tick()
				s.runtime.Run(nil, 9)
			}
			what := fmt.Sprint("picks ", picks)
			answers(t, what+": told how often", len(s.lines), 1)
			answers(t, what+": told a stop", s.lines[0] == "a 0 false", stopped)
			s.stands(what, nil, nil)
		}
	})
	if tried < 50 {
		t.Errorf("%d rows of picks alone", tried)
	}
}

// heavy is something whose memory is let go as soon as nobody keeps it.
type heavy struct {
	_ [64]int
}

// kept tells how many of these are still kept by somebody.
func kept[T any](seen []weak.Pointer[T]) int {
	runtime.GC()
	count := 0
	for _, w := range seen {
		if w.Value() != nil {
			count++
		}
	}
	return count
}

// What functions of sleepers hold is kept by nobody when they were told, nor channels of timers when these fired, or were stopped: though others wait on.
func TestNothingIsKept(t *testing.T) {
	for _, stop := range []bool{false, true} {
		s := newScene(t)
		s.sleeps("longer", 5, 0)
		s.after(6, 1)
		var held []weak.Pointer[heavy]
		var channels []weak.Pointer[chans.Chan[int64]]
		sleeper := func(d int64) {
			h := &heavy{}
			held = append(held, weak.Make(h))
			within(t, s.runtime, func(self *csp.Task) {
				_, e := s.clock.Sleep(self, d, func(int64, bool) { runtime.KeepAlive(h) })
				answers(t, "Sleep", e, api.OK)
			})
		}
		for i := range 8 {
			sleeper(2)
			channels = append(channels, weak.Make(s.after(2, 3+2*i)))
		}
		answers(t, "sleepers", kept(held), 8)
		answers(t, "channels", kept(channels), 8)
		if stop {
			for no := range 16 {
				s.stops(2+no, true)
			}
		} else {
			s.ticks(1, 0)
			s.ticks(2, 16)
		}
		answers(t, "Run", s.runtime.Run(nil, 99), 8)
		answers(t, "sleepers behind it", kept(held), 0)
		answers(t, "channels behind it", kept(channels), 0)
		s.waits("the longer ones", 2)
		runtime.KeepAlive(s)
	}
}

// However many timers wait, to make, stop and fire one more costs little, in whatever order they are due.
func TestManyWait(t *testing.T) {
	const count = 200000
	for name, delay := range map[string]func(i int) int64{
		"rising":  func(i int) int64 { return int64(i/1000 + 2) },
		"falling": func(i int) int64 { return int64((count-i)/1000 + 2) },
		"same":    func(int) int64 { return 3 },
	} {
		c := clockOf(t, csp.New())
		for i := range count {
			_, no, e := c.After(delay(i))
			answers(t, "After", e, api.OK)
			answers(t, "number", no, i)
		}
		for no := 0; no < count; no += 3 {
			answers(t, "Stop", c.Stop(no), true)
		}
		fired := 0
		for range count/1000 + 3 {
			fired += c.Tick()
		}
		answers(t, name, fired, count-(count+2)/3)
		answers(t, name, c.Waits(), 0)
	}
}

// A tick with nothing due costs little, however many timers wait.
func TestManyTicks(t *testing.T) {
	const count = 100000
	c := clockOf(t, csp.New())
	for range count {
		_, _, e := c.After(longest)
		answers(t, "After", e, api.OK)
	}
	for range 1000000 {
		answers(t, "Tick", c.Tick(), 0)
	}
	answers(t, "Waits", c.Waits(), count)
}
