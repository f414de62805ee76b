package sel

import (
	"fmt"
	"runtime"
	"slices"
	"testing"
	"weak"

	"conduit/api"
	"conduit/chans"
	"conduit/csp"
)

// world is a runtime; choices is of how many cases the last Select in it had to choose one.
type world struct {
	runtime *csp.Runtime
	choices uint64
}

// selects is a Select, which must be right; how many cases can be now is counted ahead.
func (w *world) selects(t *testing.T, self *csp.Task, cases []Case, otherwise func()) {
	t.Helper()
	w.choices = 0
	for _, c := range cases {
		if c.can() {
			w.choices++
		}
	}
	answers(t, "Select", Select(self, cases, otherwise), api.OK)
}

// traffic is what tasks send and receive at channels by Selects: by each sender what was told true, by each receiver and channel what was received.
type traffic[T comparable] struct {
	*world
	channels []*chans.Chan[T]
	sent     [][]T
	got      [][][]T
	lost     int
}

func newTraffic[T comparable](t *testing.T, sizes ...int) *traffic[T] {
	t.Helper()
	f := &traffic[T]{world: &world{runtime: csp.New()}}
	for _, size := range sizes {
		f.channels = append(f.channels, chanOf[T](t, f.runtime, size))
	}
	return f
}

// sender is a task that sends values, one by one, each at whichever channel takes it; then it does what is last. With patience it goes on by an otherwise so many times in all.
func (f *traffic[T]) sender(t *testing.T, values []T, patience int, last func()) {
	t.Helper()
	no := len(f.sent)
	f.sent = append(f.sent, nil)
	var next func(self *csp.Task, i int)
	next = func(self *csp.Task, i int) {
		if i == len(values) {
			last()
			return
		}
		var cases []Case
		for _, c := range f.channels {
			cases = append(cases, OnSend(c, values[i], func(ok bool) {
				if ok {
					f.sent[no] = append(f.sent[no], values[i])
				} else {
					f.lost++
				}
				next(self, i+1)
			}))
		}
		var otherwise func()
		if patience > 0 {
			otherwise = func() {
				patience--
				next(self, i)
			}
		}
		f.selects(t, self, cases, otherwise)
	}
	spawn(t, f.runtime, func(self *csp.Task) { next(self, 0) })
}

// receiver is a task that receives at all channels, each till it is told false there.
func (f *traffic[T]) receiver(t *testing.T) {
	t.Helper()
	no := len(f.got)
	f.got = append(f.got, make([][]T, len(f.channels)))
	open := make([]bool, len(f.channels))
	for i := range open {
		open[i] = true
	}
	var next func(self *csp.Task)
	next = func(self *csp.Task) {
		var cases []Case
		for i, c := range f.channels {
			if !open[i] {
				continue
			}
			cases = append(cases, OnRecv(c, func(v T, ok bool) {
				answers(t, "it is told nothing of a channel that ended", open[i], true)
				if open[i] = ok; ok {
					f.got[no][i] = append(f.got[no][i], v)
				}
				next(self)
			}))
		}
		if len(cases) > 0 {
			f.selects(t, self, cases, nil)
		}
	}
	spawn(t, f.runtime, next)
}

// right says that what was received is what was sent with true told, once, each sender's values in its order at each channel and receiver.
func (f *traffic[T]) right(t *testing.T, what string) {
	t.Helper()
	sent := slices.Concat(f.sent...)
	count := map[T]int{}
	for _, mine := range f.got {
		for _, got := range mine {
			for _, v := range got {
				count[v]++
			}
			f.inOrder(t, what, got)
		}
	}
	for _, v := range sent {
		answers(t, fmt.Sprint(what, ": how often came ", v), count[v], 1)
	}
	answers(t, what+": how many came", len(count), len(sent))
	stands(t, what+": all are over", f.runtime, nil, nil)
	for _, c := range f.channels {
		answers(t, what+": nobody waits", lookAt(c), look{cap: c.Cap(), closed: true, canSend: true, canRecv: true})
	}
}

func (f *traffic[T]) inOrder(t *testing.T, what string, got []T) {
	t.Helper()
	for _, sent := range f.sent {
		at := -1
		for _, v := range got {
			if i := slices.Index(sent, v); i >= 0 {
				answers(t, fmt.Sprintf("%s: %v of %v in %v", what, v, sent, got), i > at, true)
				at = i
			}
		}
	}
}

// closeBehind is what senders do last, of whom the last one closes all channels.
func (f *traffic[T]) closeBehind(t *testing.T, senders int) func() {
	return func() {
		if senders--; senders > 0 {
			return
		}
		for _, c := range f.channels {
			answers(t, "Close", c.Close(), api.OK)
		}
	}
}

// values are so many unlike ones of a sender.
func values[T any](thing func(n int) T, sender, count int) []T {
	var l []T
	for i := range count {
		l = append(l, thing(100*sender+i+1))
	}
	return l
}

// turn is how many tasks were ready for it, and of how many cases one was chosen in it.
type turn struct {
	ready, choices uint64
}

// after is the next pick for a turn: another case first, then another task.
func (n turn) after(p uint64) (uint64, bool) {
	place, choice := p%n.ready, p/n.ready
	switch {
	case choice+1 < n.choices:
		return p + n.ready, true
	case place+1 < n.ready:
		return place + 1, true
	}
	return 0, false
}

// everyPick lets tasks go on by all rows of picks that there are, for whose turn it is and for which case is done; it tells how many.
func everyPick(begin func() (*world, func(picks []uint64))) int {
	var picks []uint64
	for count := 1; ; count++ {
		w, end := begin()
		var turns []turn
		for n := len(w.runtime.Ready()); n > 0; n = len(w.runtime.Ready()) {
			if len(turns) == len(picks) {
				picks = append(picks, 0)
			}
			w.choices = 0
			w.runtime.Step(picks[len(turns)])
			turns = append(turns, turn{uint64(n), w.choices})
		}
		end(picks)
		for ok := false; !ok; {
			if len(picks) == 0 {
				return count
			}
			last := len(picks) - 1
			if picks[last], ok = turns[last].after(picks[last]); !ok {
				picks = picks[:last]
			}
		}
	}
}

// tryEveryPick lets senders of so many values each meet so many receivers at channels of these sizes, in all ways that there are.
func tryEveryPick[T comparable](t *testing.T, thing func(n int) T, sizes, counts []int, receivers, patience int) {
	t.Helper()
	tried := everyPick(func() (*world, func(picks []uint64)) {
		f := newTraffic[T](t, sizes...)
		last := f.closeBehind(t, len(counts))
		for i, count := range counts {
			f.sender(t, values(thing, i+1, count), patience, last)
		}
		for range receivers {
			f.receiver(t)
		}
		return f.world, func(picks []uint64) {
			what := fmt.Sprintf("sizes %v, %v to %d, picks %v", sizes, counts, receivers, picks)
			f.right(t, what)
			for i, count := range counts {
				lists(t, what, f.sent[i], values(thing, i+1, count)...)
			}
			answers(t, what+": lost", f.lost, 0)
		}
	})
	if tried < 2 {
		t.Errorf("%d rows of picks alone", tried)
	}
}

// P17.2, P17.3: by no picks a value is lost, doubled or out of order.
func TestEveryPick(t *testing.T) {
	for _, sizes := range [][]int{{0}, {1}, {0, 0}, {0, 1}, {1, 1}, {2, 0}} {
		t.Run(fmt.Sprint(sizes), func(t *testing.T) {
			t.Parallel()
			tryEveryPick(t, numbers, sizes, []int{5}, 1, 0)
			tryEveryPick(t, texts, sizes, []int{3}, 1, 2)
			tryEveryPick(t, texts, sizes, []int{2, 1}, 1, 0)
			tryEveryPick(t, numbers, sizes, []int{2}, 2, 0)
		})
	}
}

// P17.2, P17.3: somebody else closes one of the channels at any time, and the other one at last: what was told true is received, what was told false is not.
func TestEveryPickWithClose(t *testing.T) {
	for _, sizes := range [][]int{{0, 0}, {0, 1}, {1, 0}} {
		t.Run(fmt.Sprint(sizes), func(t *testing.T) {
			t.Parallel()
			everyPick(func() (*world, func(picks []uint64)) {
				f := newTraffic[int](t, sizes...)
				f.sender(t, values(numbers, 1, 2), 0, func() { answers(t, "Close", f.channels[1].Close(), api.OK) })
				f.receiver(t)
				spawn(t, f.runtime, func(*csp.Task) { answers(t, "Close", f.channels[0].Close(), api.OK) })
				return f.world, func(picks []uint64) {
					what := fmt.Sprintf("sizes %v, picks %v", sizes, picks)
					f.right(t, what)
					answers(t, what+": sent and lost", len(f.sent[0])+f.lost, 2)
				}
			})
		})
	}
}

// P17.2, P17.3: two tasks, of which each sends to the other and receives from it in one Select, end, by all picks.
func TestEveryPickOfExchange(t *testing.T) {
	for _, sizes := range [][]int{{0, 0}, {1, 0}} {
		t.Run(fmt.Sprint(sizes), func(t *testing.T) {
			t.Parallel()
			everyPick(func() (*world, func(picks []uint64)) {
				w := &world{runtime: csp.New()}
				channels := []*chans.Chan[string]{chanOf[string](t, w.runtime, sizes[0]), chanOf[string](t, w.runtime, sizes[1])}
				var told [2][]string
				for who := range 2 {
					mine, yours := channels[who], channels[1-who]
					left := 2
					var next func(self *csp.Task, gone, come bool)
					next = func(self *csp.Task, gone, come bool) {
						if gone && come {
							if left--; left == 0 {
								return
							}
							gone, come = false, false
						}
						var cases []Case
						if !gone {
							cases = append(cases, OnSend(mine, fmt.Sprintf("%d%d", who, left), func(ok bool) {
								answers(t, "sent", ok, true)
								next(self, true, come)
							}))
						}
						if !come {
							cases = append(cases, OnRecv(yours, func(v string, ok bool) {
								told[who] = append(told[who], v)
								next(self, gone, true)
							}))
						}
						w.selects(t, self, cases, nil)
					}
					spawn(t, w.runtime, func(self *csp.Task) { next(self, false, false) })
				}
				return w, func(picks []uint64) {
					what := fmt.Sprint("picks ", picks)
					stands(t, what, w.runtime, nil, nil)
					lists(t, what, told[0], "12", "11")
					lists(t, what, told[1], "02", "01")
				}
			})
		})
	}
}

// drawnTraffic lets many tasks of many values go on by picks at random.
func drawnTraffic[T comparable](t *testing.T, thing func(n int) T, seed uint64) {
	t.Helper()
	next := row(seed)
	var sizes []int
	for range 1 + next(16) {
		sizes = append(sizes, []int{0, 0, 1, 2, 5, 64}[next(6)])
	}
	f := newTraffic[T](t, sizes...)
	senders := 1 + next(6)
	last := f.closeBehind(t, senders)
	sent := 0
	for i := range senders {
		count := next(60)
		sent += count
		f.sender(t, values(thing, i+1, count), next(2)*next(30), last)
	}
	for range 1 + next(6) {
		f.receiver(t)
	}
	for f.runtime.Step(uint64(next(100000))) {
	}
	what := fmt.Sprintf("sizes %v, seed %d", sizes, seed)
	f.right(t, what)
	answers(t, what, len(slices.Concat(f.sent...)), sent)
}

// P17.2, P17.3: the same of many tasks, by drawn picks.
func TestDrawnPicks(t *testing.T) {
	t.Parallel()
	for seed := range uint64(150) {
		drawnTraffic(t, numbers, seed)
		drawnTraffic(t, texts, seed)
	}
}

// oneByOne is one world of two in which the same is done: here by Send and Recv, there by Selects of one case and no otherwise.
type oneByOne struct {
	runtime *csp.Runtime
	channel *chans.Chan[int]
	selects bool
	lines   []string
}

func (w *oneByOne) note(form string, parts ...any) {
	w.lines = append(w.lines, fmt.Sprintf(form, parts...))
}

// goes is a send or a receive of a task: what is answered, and later what is told.
func (w *oneByOne) goes(self *csp.Task, sends bool, v int, then func()) api.Errno {
	id := self.Id()
	told := func(ok bool) { w.note("%d sent %v", id, ok); then() }
	got := func(v int, ok bool) { w.note("%d got %d %v", id, v, ok); then() }
	switch {
	case sends && w.selects:
		return Select(self, []Case{OnSend(w.channel, v, told)}, nil)
	case sends:
		return chans.Send(self, w.channel, v, told)
	case w.selects:
		return Select(self, []Case{OnRecv(w.channel, got)}, nil)
	}
	return chans.Recv(self, w.channel, got)
}

// run lets tasks that send and receive go on by drawn picks, now and then woken, served and asked from outside, and closes at last.
func (w *oneByOne) run(seed uint64) {
	next := row(seed)
	var tasks []*csp.Task
	for i := range 6 {
		task, _ := w.runtime.Spawn(func(self *csp.Task) {
			var say func(n int)
			say = func(n int) {
				if n == 0 {
					return
				}
				w.note("%d says %d", self.Id(), w.goes(self, next(7) < 3+i%2, 100*i+n, func() { say(n - 1) }))
				w.note("%d says again %d", self.Id(), w.goes(self, next(2) == 0, 0, func() {}))
				w.note("what is left: %d", w.runtime.Choice(50))
			}
			say(20)
		})
		tasks = append(tasks, task)
	}
	for step := range 300 {
		switch next(12) {
		case 0:
			w.note("Wake %d", tasks[next(6)].Wake(next(3)))
		case 1:
			v, ok, can := w.channel.TryRecv()
			w.note("TryRecv %d %v %v", v, ok, can)
		case 2:
			ok, can := w.channel.TrySend(1000 + step)
			w.note("TrySend %v %v", ok, can)
		case 3:
			w.note("outside %d", w.goes(tasks[next(6)], true, 1, func() {}))
		default:
			w.note("Step %v", w.runtime.Step(uint64(next(5000))))
		}
		if step == 250 {
			w.note("Close %d", w.channel.Close())
		}
		w.note("%v %v %v", lookAt(w.channel), w.runtime.Ready(), w.runtime.Parked())
	}
}

// P17.3: a Select with one case and no otherwise is a Send, or a Recv, whatever happens to both.
func TestOneCase(t *testing.T) {
	for _, size := range []int{0, 1, 2, 64} {
		for seed := range uint64(40) {
			var worlds [2]*oneByOne
			for i := range worlds {
				r := csp.New()
				worlds[i] = &oneByOne{runtime: r, channel: chanOf[int](t, r, size), selects: i == 1}
				worlds[i].run(seed)
			}
			lists(t, fmt.Sprintf("size %d, seed %d", size, seed), worlds[1].lines, worlds[0].lines...)
		}
	}
}

// heavy is something whose memory is let go as soon as nobody keeps it.
type heavy struct {
	_ [64]int
}

// kept tells how many of these are still kept by somebody.
func kept(seen []weak.Pointer[heavy]) int {
	runtime.GC()
	count := 0
	for _, w := range seen {
		if w.Value() != nil {
			count++
		}
	}
	return count
}

// What a task would have sent elsewhere, and what its cases' functions hold, is kept by nobody when it was served and told: though nobody comes by where it waited too.
func TestNothingIsKept(t *testing.T) {
	for served := range 3 {
		r := csp.New()
		var seen []weak.Pointer[heavy]
		thing := func() *heavy {
			h := &heavy{}
			seen = append(seen, weak.Make(h))
			return h
		}
		a, b, c := chanOf[*heavy](t, r, 0), chanOf[*heavy](t, r, 0), chanOf[int](t, r, 0)
		task := spawn(t, r, func(self *csp.Task) {
			held := thing()
			cases := []Case{
				OnSend(a, thing(), func(bool) { runtime.KeepAlive(held) }),
				OnSend(b, thing(), func(bool) {}),
				OnRecv(c, func(int, bool) { runtime.KeepAlive(held) }),
			}
			answers(t, "Select", Select(self, cases, nil), api.OK)
		})
		answers(t, "Step", r.Step(0), true)
		answers(t, "it waits", kept(seen), 3)
		switch served {
		case 0:
			a.TryRecv()
		case 1:
			b.TryRecv()
		case 2:
			c.TrySend(1)
		}
		answers(t, "Run", r.Run(nil, 9), 1)
		answers(t, fmt.Sprint(served, ": how many are kept"), kept(seen), 0)
		runtime.KeepAlive([]any{r, a, b, c, task})
	}
}

// A task that selects again and again at a channel at which nothing comes, beside one at which much does, costs each call little.
func TestManyRounds(t *testing.T) {
	const count = 50000
	r := csp.New()
	busy, quiet := chanOf[int](t, r, 0), chanOf[int](t, r, 0)
	sum := 0
	quit := false
	spawn(t, r, func(self *csp.Task) {
		var next func()
		next = func() {
			Select(self, []Case{OnRecv(quiet, func(_ int, ok bool) { quit = !ok }), OnRecv(busy, func(v int, ok bool) {
				sum += v
				next()
			})}, nil)
		}
		next()
	})
	for range count {
		answers(t, "its turn", r.Step(0), true)
		ok, can := busy.TrySend(1)
		answers(t, "TrySend", ok && can, true)
	}
	answers(t, "its turn", r.Step(0), true)
	answers(t, "sum", sum, count)
	answers(t, "it waits once", lookAt(quiet), look{receivers: 1, canSend: true})
	quiet.Close()
	answers(t, "Run", r.Run(nil, 9), 1)
	answers(t, "it was told", quit, true)
	answers(t, "nobody waits", lookAt(busy), look{})
}
