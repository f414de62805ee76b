package flow

import (
	"fmt"
	"math"
	"reflect"
	"slices"
	"strconv"
	"strings"
	"testing"

	"conduit/api"
	"conduit/chans"
	"conduit/csp"
)

// answers says what a call must answer.
func answers[T comparable](t *testing.T, what string, got, want T) {
	t.Helper()
	if got != want {
		t.Fatalf("%s: %v, want %v", what, got, want)
	}
}

// lists says what a call must list.
func lists[T comparable](t *testing.T, what string, got []T, want ...T) {
	t.Helper()
	if !slices.Equal(got, want) {
		t.Fatalf("%s: %v, want %v", what, got, want)
	}
}

// stands says which tasks must be ready, and which parked.
func stands(t *testing.T, what string, r *csp.Runtime, ready, parked []int) {
	t.Helper()
	lists(t, what+": Ready", r.Ready(), ready...)
	lists(t, what+": Parked", r.Parked(), parked...)
}

// numbers are from first on, so many.
func numbers(first, count int) []int {
	var l []int
	for i := range count {
		l = append(l, first+i)
	}
	return l
}

// look is all that can be asked of a channel.
type look struct {
	len, cap           int
	closed             bool
	senders, receivers int
	canSend, canRecv   bool
}

func lookAt[T any](c *chans.Chan[T]) look {
	l := look{len: c.Len(), cap: c.Cap(), closed: c.Closed()}
	l.canSend, l.canRecv = c.Can()
	l.senders, l.receivers = c.Waits()
	return l
}

// empty, sending, receiving and spent are how a channel stands: an open one without anything, one at which so many wait, and one that is closed, with nothing in it.
func empty(size int) look { return look{cap: size, canSend: size > 0} }

func sending(size, senders int) look {
	return look{len: size, cap: size, senders: senders, canRecv: true}
}

func receiving(size, receivers int) look {
	return look{cap: size, receivers: receivers, canSend: true}
}

func spent(size int) look { return look{cap: size, closed: true, canSend: true, canRecv: true} }

// looks says how a channel must stand.
func looks[T any](t *testing.T, what string, c *chans.Chan[T], want look) {
	t.Helper()
	answers(t, what, lookAt(c), want)
}

// gets says what must be received from a channel now.
func gets[T comparable](t *testing.T, what string, c *chans.Chan[T], want T) {
	t.Helper()
	v, ok, can := c.TryRecv()
	answers(t, what+": TryRecv", v, want)
	answers(t, what+": TryRecv ok", ok, true)
	answers(t, what+": TryRecv can", can, true)
}

// puts is a value that must be sent at a channel now.
func puts[T any](t *testing.T, what string, c *chans.Chan[T], v T) {
	t.Helper()
	ok, can := c.TrySend(v)
	answers(t, what+": TrySend ok", ok, true)
	answers(t, what+": TrySend can", can, true)
}

// closes is a Close, which must find the channel open.
func closes[T any](t *testing.T, what string, c *chans.Chan[T]) {
	t.Helper()
	answers(t, what+": Close", c.Close(), api.OK)
}

// steps are so many turns, by picks of 0.
func steps(t *testing.T, what string, r *csp.Runtime, count int) {
	t.Helper()
	answers(t, what+": turns", r.Run(nil, count), count)
}

// ends lets all who are ready have their turns: nobody waits behind them.
func ends(t *testing.T, what string, r *csp.Runtime) {
	t.Helper()
	r.Run(nil, 1<<20)
	stands(t, what, r, nil, nil)
}

// chanOf is a channel of a runtime, which must be made.
func chanOf[T any](t *testing.T, r *csp.Runtime, size int) *chans.Chan[T] {
	t.Helper()
	c, e := chans.Make[T](r, size)
	answers(t, "Make", e, api.OK)
	return c
}

// fresh says that a channel is new, of that size, and of that runtime.
func fresh[T any](t *testing.T, what string, c *chans.Chan[T], e api.Errno, r *csp.Runtime, size int) *chans.Chan[T] {
	t.Helper()
	answers(t, what, e, api.OK)
	answers(t, what+": its runtime", c.Runtime(), r)
	looks(t, what, c, empty(size))
	return c
}

func feedOf[T any](t *testing.T, r *csp.Runtime, l []T, size int) *chans.Chan[T] {
	t.Helper()
	c, e := Feed(r, l, size)
	return fresh(t, "Feed", c, e, r, size)
}

func pipeOf[A, B any](t *testing.T, r *csp.Runtime, in *chans.Chan[A], f func(A) B, size int) *chans.Chan[B] {
	t.Helper()
	c, e := Pipe(r, in, f, size)
	return fresh(t, "Pipe", c, e, r, size)
}

func mergeOf[T any](t *testing.T, r *csp.Runtime, size int, ins ...*chans.Chan[T]) *chans.Chan[T] {
	t.Helper()
	c, e := Merge(r, ins, size)
	return fresh(t, "Merge", c, e, r, size)
}

func splitOf[T any](t *testing.T, r *csp.Runtime, in *chans.Chan[T], n, size int) []*chans.Chan[T] {
	t.Helper()
	l, e := Split(r, in, n, size)
	answers(t, "Split: channels", len(l), n)
	for i, c := range l {
		fresh(t, fmt.Sprint("Split: channel ", i), c, e, r, size)
		answers(t, "Split: where a channel stands", slices.Index(l, c), i)
	}
	return l
}

func collectOf[T any](t *testing.T, r *csp.Runtime, in *chans.Chan[T]) *Basket[T] {
	t.Helper()
	b, e := Collect(r, in)
	answers(t, "Collect", e, api.OK)
	holds(t, "Collect", b, false)
	return b
}

// holds says what must be in a basket, and whether it is done.
func holds[T any](t *testing.T, what string, b *Basket[T], done bool, want ...T) {
	t.Helper()
	if got := b.List(); !reflect.DeepEqual(append([]T{}, got...), append([]T{}, want...)) {
		t.Fatalf("%s: List: %v, want %v", what, got, want)
	}
	answers(t, what+": Done", b.Done(), done)
}

// diary is what functions that were handed in were told, in order.
type diary struct {
	lines []string
}

func (d *diary) note(form string, parts ...any) {
	d.lines = append(d.lines, fmt.Sprintf(form, parts...))
}

// reads says what stands in a diary since it was read last.
func (d *diary) reads(t *testing.T, what string, want ...string) {
	t.Helper()
	lists(t, what, d.lines, want...)
	d.lines = nil
}

// watch lets somebody who is no task wait to receive, once; it notes what is told.
func watch[T any](t *testing.T, d *diary, who string, c *chans.Chan[T]) *chans.Ticket {
	t.Helper()
	k := chans.NewTicket(func() {})
	e := c.WaitRecv(k, func(v T, ok bool) { d.note("%s %v %v", who, v, ok) })
	answers(t, who+": WaitRecv", e, api.OK)
	return k
}

// within does something in a turn of a new task, at the end of the line.
func within(t *testing.T, r *csp.Runtime, do func(self *csp.Task)) {
	t.Helper()
	done := false
	_, e := r.Spawn(func(self *csp.Task) {
		do(self)
		done = true
	})
	answers(t, "Spawn", e, api.OK)
	if !r.Step(uint64(len(r.Ready())-1)) || !done {
		t.Fatal("no turn")
	}
}

func double(x int) int { return 2 * x }

// The chapter's examples.
func TestExamples(t *testing.T) {
	r := csp.New()
	b := collectOf(t, r, pipeOf(t, r, feedOf(t, r, []int{1, 2, 3}, 0), double, 0))
	ends(t, "a line", r)
	holds(t, "a line", b, true, 2, 4, 6)
	for _, size := range []int{0, 1, 2, 64} {
		r := csp.New()
		b := collectOf(t, r, mergeOf(t, r, size, splitOf(t, r, feedOf(t, r, []int{1, 2, 3, 4}, size), 2, size)...))
		ends(t, "two lines", r)
		answers(t, "Done", b.Done(), true)
		inOrder(t, "two lines", b.List(), []int{1, 3}, []int{2, 4})
	}
}

// inOrder says that a list is made of others, each in its order.
func inOrder[T comparable](t *testing.T, what string, got []T, parts ...[]T) {
	t.Helper()
	answers(t, what+": how many", len(got), len(slices.Concat(parts...)))
	for _, part := range parts {
		lists(t, fmt.Sprint(what, ": ", got), slices.DeleteFunc(slices.Clone(got), func(x T) bool { return !slices.Contains(part, x) }), part...)
	}
}

// five are the calls, of a runtime, a channel, and a size: what each answers beside an error is none.
func five(t *testing.T, what string, r *csp.Runtime, in *chans.Chan[int], size int) map[string]api.Errno {
	t.Helper()
	feed, e1 := Feed(r, []int{1, 2}, size)
	pipe, e2 := Pipe(r, in, strconv.Itoa, size)
	merge, e3 := Merge(r, []*chans.Chan[int]{in}, size)
	split, e4 := Split(r, in, 2, size)
	collect, e5 := Collect(r, in)
	for name, is := range map[string]bool{
		"Feed":    (feed != nil) == (e1 == api.OK),
		"Pipe":    (pipe != nil) == (e2 == api.OK),
		"Merge":   (merge != nil) == (e3 == api.OK),
		"Split":   (len(split) == 2 || split == nil) && (split != nil) == (e4 == api.OK),
		"Collect": (collect != nil) == (e5 == api.OK),
	} {
		answers(t, what+": an answer or an error of "+name, is, true)
	}
	return map[string]api.Errno{"Feed": e1, "Pipe": e2, "Merge": e3, "Split": e4, "Collect": e5}
}

// refuse says what the calls of these names must be answered, and that nothing has changed but for what the others did: a Feed, if any.
func refuse(t *testing.T, what string, r *csp.Runtime, in *chans.Chan[int], size int, want api.Errno, names string) {
	t.Helper()
	ready, parked, was := r.Ready(), r.Parked(), lookAt(in)
	got := five(t, what, r, in, size)
	for name := range strings.FieldsSeq(names) {
		answers(t, what+": "+name, got[name], want)
	}
	if got["Feed"] == api.OK {
		next := r.Ready()[len(ready)]
		ready = append(ready, next)
	}
	stands(t, what, r, ready, parked)
	looks(t, what, in, was)
}

const all = "Feed Pipe Merge Split Collect"

// noRuntimes are those that nobody made.
func noRuntimes() map[string]*csp.Runtime {
	was := *csp.New()
	return map[string]*csp.Runtime{"nil": nil, "a zero": {}, "a copy": &was}
}

// noChans are those of a runtime that nobody made.
func noChans[T any](t *testing.T, r *csp.Runtime) map[string]*chans.Chan[T] {
	was := *chanOf[T](t, r, 1)
	return map[string]*chans.Chan[T]{"nil": nil, "a zero": {}, "a copy": &was}
}

// P19.1 to P19.5: no runtime is refused ahead of all else.
func TestNoRuntime(t *testing.T) {
	good := csp.New()
	in := chanOf[int](t, good, 1)
	for name, none := range noRuntimes() {
		for _, size := range []int{0, -1, 65} {
			refuse(t, name, none, in, size, api.ErrNil, all)
			refuse(t, name+", no channel", none, nil, size, api.ErrNil, all)
		}
		_, e := Merge[int](none, nil, 0)
		answers(t, name+": Merge of none", e, api.ErrNil)
		_, e = Merge(none, slices.Repeat([]*chans.Chan[int]{in}, 17), 0)
		answers(t, name+": Merge of too many", e, api.ErrNil)
		for _, n := range []int{-1, 0, 17} {
			_, e := Split(none, in, n, 0)
			answers(t, name+": Split", e, api.ErrNil)
		}
	}
	stands(t, "good", good, nil, nil)
	looks(t, "good", in, empty(1))
}

// P19.2 to P19.5: no channel is refused ahead of a size, a count, another runtime, and want of room.
func TestNoChannel(t *testing.T) {
	r, full := csp.New(), fullOf(t, 0)
	for name, none := range noChans[int](t, r) {
		for _, size := range []int{0, 64, -1, 65} {
			refuse(t, name, r, none, size, api.ErrNil, "Pipe Merge Split Collect")
			refuse(t, name+", no room", full, none, size, api.ErrNil, "Pipe Merge Split Collect")
		}
		for _, n := range []int{-1, 0, 17} {
			_, e := Split(r, none, n, 0)
			answers(t, name+": Split", e, api.ErrNil)
		}
	}
}

// P19.2: no function is refused, ahead of all but ErrNil.
func TestNoFunction(t *testing.T) {
	r := csp.New()
	in, other := chanOf[int](t, r, 1), chanOf[int](t, csp.New(), 1)
	for _, c := range []*chans.Chan[int]{in, other, nil} {
		for _, size := range []int{0, 1, 64, -1, 65} {
			for _, run := range []*csp.Runtime{r, fullOf(t, 0), nil} {
				out, e := Pipe[int, string](run, c, nil, size)
				answers(t, "Pipe", e, api.ErrNil)
				answers(t, "Pipe: the channel", out, nil)
			}
		}
	}
	stands(t, "Pipe", r, nil, nil)
	looks(t, "Pipe", in, empty(1))
}

// P19.1 to P19.4: sizes from 0 to 64, and no others, which are refused ahead of another runtime and of want of room.
func TestSizes(t *testing.T) {
	for size := range 65 {
		r := csp.New()
		in := feedOf(t, r, []int{7}, size)
		pipeOf(t, r, in, double, size)
		mergeOf(t, r, size, in, in)
		splitOf(t, r, in, 3, size)
	}
	r := csp.New()
	in := chanOf[int](t, r, 1)
	for _, size := range []int{-1, 65, -64, 66, 255, 256, math.MinInt, math.MaxInt, math.MinInt32, math.MaxInt32} {
		what := fmt.Sprint("size ", size)
		for _, run := range []*csp.Runtime{r, csp.New(), fullOf(t, 0)} {
			out, e := Feed(run, []int{1}, size)
			answers(t, what, out == nil && e == api.ErrArg, true)
			pipe, e1 := Pipe(run, in, double, size)
			merge, e2 := Merge(run, []*chans.Chan[int]{in}, size)
			split, e3 := Split(run, in, 2, size)
			lists(t, what, []api.Errno{e1, e2, e3}, api.ErrArg, api.ErrArg, api.ErrArg)
			answers(t, what, pipe == nil && merge == nil && split == nil, true)
		}
		stands(t, what, r, nil, nil)
		looks(t, what, in, empty(1))
	}
}

// P19.3, P19.4: from 1 to 16 channels, and no other counts, which are refused ahead of another runtime and of want of room.
func TestCounts(t *testing.T) {
	for n := 1; n <= 16; n++ {
		r := csp.New()
		in := chanOf[int](t, r, 0)
		splitOf(t, r, in, n, n)
		stands(t, "Split", r, []int{0}, nil)
		mergeOf(t, r, n, slices.Repeat([]*chans.Chan[int]{in}, n)...)
		stands(t, "Merge", r, numbers(0, n+1), nil)
	}
	r := csp.New()
	in := chanOf[int](t, r, 1)
	for _, run := range []*csp.Runtime{r, csp.New(), fullOf(t, 0)} {
		ready := run.Ready()
		for _, n := range []int{0, -1, 17, 18, 256, 257, math.MinInt, math.MaxInt, 1 << 32, 1<<32 + 1} {
			l, e := Split(run, in, n, 0)
			answers(t, fmt.Sprint("Split into ", n), e, api.ErrArg)
			answers(t, fmt.Sprint("Split into ", n), l == nil, true)
		}
		for _, n := range []int{0, 17, 18, 32, 1000} {
			out, e := Merge(run, slices.Repeat([]*chans.Chan[int]{in}, n), 0)
			answers(t, fmt.Sprint("Merge of ", n), e, api.ErrArg)
			answers(t, fmt.Sprint("Merge of ", n), out, nil)
		}
		out, e := Merge[int](run, nil, 0)
		answers(t, "Merge of no list", e, api.ErrArg)
		answers(t, "Merge of no list", out, nil)
		stands(t, "refused", run, ready, nil)
	}
	looks(t, "refused", in, empty(1))
}

// P19.2 to P19.5: a channel of another runtime is refused, ahead of want of room.
func TestOther(t *testing.T) {
	r, other := csp.New(), csp.New()
	in, foreign := chanOf[int](t, r, 1), chanOf[int](t, other, 1)
	for _, size := range []int{0, 1, 64} {
		refuse(t, "foreign", r, foreign, size, api.ErrOther, "Pipe Merge Split Collect")
		refuse(t, "full", fullOf(t, 0), in, size, api.ErrOther, "Pipe Merge Split Collect")
	}
	for _, n := range []int{1, 2, 16} {
		l, e := Split(r, foreign, n, 0)
		answers(t, "Split", l == nil && e == api.ErrOther, true)
	}
	stands(t, "other", other, nil, nil)
	looks(t, "foreign", foreign, empty(1))
	closes(t, "foreign", foreign)
	refuse(t, "foreign and closed", r, foreign, 0, api.ErrOther, "Pipe Merge Split Collect")
}

// P19.3: one bad channel among good ones, at each place; no channel counts ahead of too many, too many ahead of another runtime.
func TestBadAmongGood(t *testing.T) {
	r, other := csp.New(), csp.New()
	foreign := chanOf[int](t, other, 1)
	good := chanOf[int](t, r, 1)
	try := func(what string, bad *chans.Chan[int], n int, size int, want api.Errno) {
		t.Helper()
		for place := range n {
			ins := slices.Repeat([]*chans.Chan[int]{good}, n)
			ins[place] = bad
			out, e := Merge(r, ins, size)
			answers(t, fmt.Sprint(what, " at place ", place, " of ", n), e, want)
			answers(t, what, out, nil)
			stands(t, what, r, nil, nil)
		}
	}
	for n := 1; n <= 18; n++ {
		for name, none := range noChans[int](t, r) {
			try(name, none, n, 0, api.ErrNil)
			try(name, none, n, 65, api.ErrNil)
		}
		want := api.ErrOther
		if n > 16 {
			want = api.ErrArg
		}
		try("another runtime's", foreign, n, 0, want)
		try("another runtime's", foreign, n, -1, api.ErrArg)
	}
	for _, ins := range [][]*chans.Chan[int]{{foreign, nil}, {nil, foreign}, {foreign, good, nil}} {
		_, e := Merge(r, ins, 0)
		answers(t, "none behind another runtime's", e, api.ErrNil)
	}
	looks(t, "good", good, empty(1))
	looks(t, "foreign", foreign, empty(1))
	stands(t, "other", other, nil, nil)
}

// fullOf is a runtime with room for so many tasks, in which the others are ready.
func fullOf(t *testing.T, room int) *csp.Runtime {
	t.Helper()
	r := csp.New()
	for range 256 - room {
		_, e := r.Spawn(func(self *csp.Task) { self.Park(func(int) {}) })
		answers(t, "Spawn", e, api.OK)
	}
	return r
}

// has says how many tasks there must be room for, and which number the next one has, and takes that room.
func has(t *testing.T, what string, r *csp.Runtime, room, next int) {
	t.Helper()
	for i := range room {
		task, e := r.Spawn(func(*csp.Task) {})
		answers(t, what+": room", e, api.OK)
		answers(t, what+": number", task.Id(), next+i)
	}
	_, e := r.Spawn(func(*csp.Task) {})
	answers(t, what+": no more room", e, api.ErrFull)
}

// P19.1 to P19.5: a runtime that is full, however its tasks stand: none is made, no number is used up.
func TestFull(t *testing.T) {
	for _, turns := range []int{0, 100, 256} {
		r := fullOf(t, 0)
		steps(t, "parked", r, turns)
		in := chanOf[int](t, r, 1)
		puts(t, "in", in, 5)
		refuse(t, fmt.Sprint(turns, " parked"), r, in, 0, api.ErrFull, all)
		refuse(t, fmt.Sprint(turns, " parked"), r, in, 64, api.ErrFull, all)
		_, e := Merge(r, slices.Repeat([]*chans.Chan[int]{in}, 16), 0)
		answers(t, "Merge", e, api.ErrFull)
		has(t, "full", r, 0, 256)
	}
}

// P19.1, P19.2, P19.4, P19.5: a task too few is no room, one is room enough.
func TestRoomForOne(t *testing.T) {
	for name, call := range map[string]func(r *csp.Runtime, in *chans.Chan[int]) api.Errno{
		"Feed": func(r *csp.Runtime, in *chans.Chan[int]) api.Errno { _, e := Feed(r, []int{1}, 0); return e },
		"Pipe": func(r *csp.Runtime, in *chans.Chan[int]) api.Errno { _, e := Pipe(r, in, double, 0); return e },
		"Merge": func(r *csp.Runtime, in *chans.Chan[int]) api.Errno {
			_, e := Merge(r, []*chans.Chan[int]{in}, 0)
			return e
		},
		"Split":   func(r *csp.Runtime, in *chans.Chan[int]) api.Errno { _, e := Split(r, in, 16, 0); return e },
		"Collect": func(r *csp.Runtime, in *chans.Chan[int]) api.Errno { _, e := Collect(r, in); return e },
	} {
		r := fullOf(t, 2)
		in := chanOf[int](t, r, 1)
		answers(t, name, call(r, in), api.OK)
		answers(t, name, call(r, in), api.OK)
		stands(t, name, r, numbers(0, 256), nil)
		answers(t, name, call(r, in), api.ErrFull)
		stands(t, name, r, numbers(0, 256), nil)
		for _, says := range []bool{false, true} {
			r := fullOf(t, 2)
			within(t, r, func(self *csp.Task) {
				if says {
					answers(t, "Yield", self.Yield(func() {}), api.OK)
				}
				in := chanOf[int](t, r, 1)
				answers(t, name+" within", call(r, in), api.OK)
				answers(t, name+" within", call(r, in), api.ErrFull)
				has(t, name+" within", r, 0, 256)
			})
		}
	}
}

// P19.3: as many tasks as channels, or none.
func TestRoomForSome(t *testing.T) {
	for _, n := range []int{1, 2, 3, 15, 16} {
		for room := range n + 2 {
			what := fmt.Sprintf("%d of %d", room, n)
			r := fullOf(t, room)
			steps(t, what, r, 100)
			ready, parked := r.Ready(), r.Parked()
			ins := slices.Repeat([]*chans.Chan[int]{chanOf[int](t, r, 1)}, n)
			out, e := Merge(r, ins, 2)
			if room < n {
				answers(t, what, e, api.ErrFull)
				answers(t, what, out, nil)
				stands(t, what, r, ready, parked)
				has(t, what, r, room, 256-room)
			} else {
				fresh(t, what, out, e, r, 2)
				stands(t, what, r, append(ready, numbers(256-room, n)...), parked)
				has(t, what, r, room-n, 256-room+n)
			}
		}
	}
}

// P19.3: the same by a task in its turn, which counts among them till it is over.
func TestRoomForSomeWithin(t *testing.T) {
	for _, n := range []int{2, 3, 16} {
		for room := range n + 2 {
			what := fmt.Sprintf("%d of %d", room, n)
			r := fullOf(t, room+1)
			within(t, r, func(self *csp.Task) {
				ready := r.Ready()
				_, e := Merge(r, slices.Repeat([]*chans.Chan[int]{chanOf[int](t, r, 1)}, n), 2)
				if room < n {
					answers(t, what, e, api.ErrFull)
					stands(t, what, r, ready, nil)
					has(t, what, r, room, 256-room)
				} else {
					answers(t, what, e, api.OK)
					stands(t, what, r, append(ready, numbers(256-room, n)...), nil)
					has(t, what, r, room-n, 256-room+n)
				}
			})
		}
	}
}

// P19.3: the same by a task that has said how it goes on, where there is plainly room, or none: no task is made in vain.
func TestRoomForSomeBehindYield(t *testing.T) {
	for _, n := range []int{2, 3, 16} {
		for room := range n + 3 {
			what := fmt.Sprintf("%d of %d", room, n)
			r := fullOf(t, room+1)
			within(t, r, func(self *csp.Task) {
				answers(t, "Yield", self.Yield(func() {}), api.OK)
				ready := r.Ready()
				_, e := Merge(r, slices.Repeat([]*chans.Chan[int]{chanOf[int](t, r, 1)}, n), 2)
				switch {
				case room < n:
					answers(t, what, e, api.ErrFull)
				case room > n:
					answers(t, what, e, api.OK)
				}
				if e == api.OK {
					stands(t, what, r, append(ready, numbers(256-room, n)...), nil)
				} else {
					stands(t, what, r, ready, nil)
					has(t, what, r, room, 256-room)
				}
			})
		}
	}
}

// Nothing can be asked of a basket but what the chapter lists.
func TestFace(t *testing.T) {
	basket := reflect.TypeFor[*Basket[int]]()
	var calls []string
	for i := range basket.NumMethod() {
		calls = append(calls, basket.Method(i).Name)
	}
	lists(t, "calls", calls, "Done", "List")
	for i := range basket.Elem().NumField() {
		if f := basket.Elem().Field(i); f.IsExported() || f.Anonymous {
			t.Errorf("field %s", f.Name)
		}
	}
}
