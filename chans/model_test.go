package chans

import (
	"fmt"
	"math/bits"
	"slices"
	"testing"

	"conduit/api"
	"conduit/csp"
)

// note is what a function is told that was handed in: which function it is, and the rest.
type note[T comparable] struct {
	what  string
	label int
	value T
	ok    bool
}

// modelTicket is a ticket by the chapter's words. Of a task that waits it is the task's own; task is -1 of all others.
type modelTicket struct {
	label int
	task  int
	fired bool
}

type modelWaiter[T comparable] struct {
	ticket    *modelTicket
	sends     bool
	value     T
	label     int
	forgotten bool
}

// modelChan is a channel by the chapter's words: all that ever waited are kept, in the order in which they came.
type modelChan[T comparable] struct {
	size   int
	closed bool
	buffer []T
	ever   []*modelWaiter[T]
}

// waiting are those who wait to send, or to receive, but for those with a ticket.
func (c *modelChan[T]) waiting(sends bool, but *modelTicket) []*modelWaiter[T] {
	var those []*modelWaiter[T]
	for _, w := range c.ever {
		if w.sends == sends && !w.forgotten && !w.ticket.fired && w.ticket != but {
			those = append(those, w)
		}
	}
	return those
}

func (c *modelChan[T]) canSend(but *modelTicket) bool {
	return c.closed || len(c.waiting(false, but)) > 0 || len(c.buffer) < c.size
}

func (c *modelChan[T]) canRecv(but *modelTicket) bool {
	return len(c.buffer) > 0 || len(c.waiting(true, but)) > 0 || c.closed
}

// standing is how a task stands; one that is silent is running and has not said how it goes on.
type standing uint8

const (
	silent standing = iota
	ready
	parked
	over
)

// modelTask is a task; one that is unserved waits at a channel, even if somebody else has woken it.
type modelTask[T comparable] struct {
	is       standing
	unserved bool
	next     note[T]
}

// model is channels, and the tasks that talk through them; running is -1 outside of a turn.
type model[T comparable] struct {
	chans   []*modelChan[T]
	tickets []*modelTicket
	tasks   []*modelTask[T]
	line    []int
	running int
	notes   []note[T]
}

func (m *model[T]) getReady(id int) {
	m.tasks[id].is = ready
	m.line = append(m.line, id)
}

func (m *model[T]) serve(w *modelWaiter[T], v T, ok bool) {
	w.ticket.fired = true
	id := w.ticket.task
	if id < 0 {
		m.notes = append(m.notes, note[T]{"told", w.label, v, ok}, note[T]{what: "fired", label: w.ticket.label})
		return
	}
	m.tasks[id].unserved, m.tasks[id].next = false, note[T]{"then", w.label, v, ok}
	if m.tasks[id].is == parked {
		m.getReady(id)
	}
}

func (m *model[T]) sendNow(c *modelChan[T], v T) bool {
	if c.closed {
		return false
	}
	if receivers := c.waiting(false, nil); len(receivers) > 0 {
		m.serve(receivers[0], v, true)
	} else {
		c.buffer = append(c.buffer, v)
	}
	return true
}

func (m *model[T]) recvNow(c *modelChan[T]) (T, bool) {
	var none T
	senders := c.waiting(true, nil)
	if len(c.buffer) > 0 {
		v := c.buffer[0]
		c.buffer = c.buffer[1:]
		if len(senders) > 0 {
			m.serve(senders[0], none, true)
			c.buffer = append(c.buffer, senders[0].value)
		}
		return v, true
	}
	if len(senders) > 0 {
		m.serve(senders[0], none, true)
		return senders[0].value, true
	}
	return none, false
}

func (m *model[T]) close(c *modelChan[T]) api.Errno {
	if c.closed {
		return api.ErrClosed
	}
	c.closed = true
	var none T
	for _, sends := range []bool{false, true} {
		for w := c.waiting(sends, nil); len(w) > 0; w = c.waiting(sends, nil) {
			m.serve(w[0], none, false)
		}
	}
	return api.OK
}

func (m *model[T]) wait(c *modelChan[T], k *modelTicket, w *modelWaiter[T]) api.Errno {
	if k.fired || w.sends && c.canSend(k) || !w.sends && c.canRecv(k) {
		return api.ErrArg
	}
	w.ticket = k
	c.ever = append(c.ever, w)
	return api.OK
}

func (m *model[T]) forget(c *modelChan[T], k *modelTicket) int {
	count := 0
	for _, w := range slices.Concat(c.waiting(false, nil), c.waiting(true, nil)) {
		if w.ticket == k {
			w.forgotten = true
			count++
		}
	}
	return count
}

// says is what a task is answered that says how it goes on.
func (m *model[T]) says(id int) api.Errno {
	switch {
	case id >= len(m.tasks):
		return api.ErrNil
	case id != m.running:
		return api.ErrOver
	case m.tasks[id].is != silent:
		return api.ErrBusy
	}
	return api.OK
}

func (m *model[T]) yield(id int, next note[T]) {
	m.tasks[id].next = next
	m.getReady(id)
}

// goes is a Send, or a Recv, of a task.
func (m *model[T]) goes(id int, c *modelChan[T], w *modelWaiter[T]) api.Errno {
	e := m.says(id)
	switch {
	case e != api.OK:
	case w.sends && c.canSend(nil):
		ok := m.sendNow(c, w.value)
		m.yield(id, note[T]{what: "then", label: w.label, ok: ok})
	case !w.sends && c.canRecv(nil):
		v, ok := m.recvNow(c)
		m.yield(id, note[T]{"then", w.label, v, ok})
	default:
		w.ticket = &modelTicket{task: id}
		c.ever = append(c.ever, w)
		m.tasks[id].is, m.tasks[id].unserved = parked, true
	}
	return e
}

func (m *model[T]) park(id int, next note[T]) api.Errno {
	e := m.says(id)
	if e == api.OK {
		m.tasks[id].is, m.tasks[id].next = parked, next
	}
	return e
}

func (m *model[T]) wake(id int) api.Errno {
	switch {
	case id >= len(m.tasks):
		return api.ErrNil
	case m.tasks[id].is != parked:
		return api.ErrOver
	}
	m.getReady(id)
	return api.OK
}

func (m *model[T]) canStep() bool {
	return m.running < 0 && len(m.line) > 0
}

// begin is the beginning of a turn, and whether a function that was handed in has it: a task that waits parks again.
func (m *model[T]) begin(p uint64) bool {
	place := int(p % uint64(len(m.line)))
	id := m.line[place]
	m.line = slices.Delete(m.line, place, place+1)
	task := m.tasks[id]
	if task.unserved {
		task.is = parked
		return false
	}
	task.is, m.running = silent, id
	m.notes = append(m.notes, task.next)
	return true
}

func (m *model[T]) end() {
	if task := m.tasks[m.running]; task.is == silent {
		task.is = over
	}
	m.running = -1
}

// those are the tasks that stand so, by rising numbers.
func (m *model[T]) those(is standing) []int {
	var ids []int
	for id, task := range m.tasks {
		if task.is == is {
			ids = append(ids, id)
		}
	}
	return ids
}

// call is one thing that is done, within a turn or outside of one: at which channel, by which ticket or task. A task of -1 is the one whose turn it is, or else the first. An end ends the turn.
type call struct {
	kind string
	at   int
	who  int
	p    uint64
}

func (c call) String() string {
	return fmt.Sprintf("%s at %d by %d, %d", c.kind, c.at, c.who, c.p)
}

// pair is channels, tickets and tasks, and what they should be. Its tasks do in their turns what next tells; with nothing told they say nothing, and are over. thing tells the n-th value that is sent.
type pair[T comparable] struct {
	runtime *csp.Runtime
	chans   []*Chan[T]
	tickets []*Ticket
	tasks   []*csp.Task
	model   *model[T]
	thing   func(n int) T
	next    func() (call, bool)
	labels  int
	turns   int
	notes   []note[T]
	fault   string
}

func newPair[T comparable](sizes []int, tickets int, thing func(n int) T, next func() (call, bool)) *pair[T] {
	p := &pair[T]{runtime: csp.New(), model: &model[T]{running: -1}, thing: thing, next: next}
	p.chans, p.model.chans = make([]*Chan[T], len(sizes)), make([]*modelChan[T], len(sizes))
	p.tickets, p.model.tickets = make([]*Ticket, tickets), make([]*modelTicket, tickets)
	for i, size := range sizes {
		p.make(i, size)
	}
	for i := range tickets {
		p.ticket(i)
	}
	return p
}

// ofRow tells the calls of a row, then asks once for what there is: behind the last one alone, so that no asking can help.
func ofRow(row []call) func() (call, bool) {
	at := 0
	return func() (call, bool) {
		at++
		switch {
		case at <= len(row):
			return row[at-1], true
		case at == len(row)+1:
			return call{kind: "ask"}, true
		}
		return call{}, false
	}
}

// fail notes the first fault.
func (p *pair[T]) fail(what string, got, want any) {
	if p.fault == "" {
		p.fault = fmt.Sprintf("%s: %v, want %v", what, got, want)
	}
}

// label numbers a function; the value that goes with it, if any, is that of the same number.
func (p *pair[T]) label() int {
	p.labels++
	return p.labels
}

// notes a function of that label that is told a value and ok.
func (p *pair[T]) noter(what string, label int) func(v T, ok bool) {
	return func(v T, ok bool) { p.notes = append(p.notes, note[T]{what, label, v, ok}) }
}

func (p *pair[T]) make(at, size int) {
	c, e := Make[T](p.runtime, size)
	if c == nil || e != api.OK {
		p.fail("Make", c, e)
	}
	p.chans[at], p.model.chans[at] = c, &modelChan[T]{size: size}
}

func (p *pair[T]) ticket(who int) {
	label := p.label()
	p.tickets[who] = NewTicket(func() { p.notes = append(p.notes, note[T]{what: "fired", label: label}) })
	p.model.tickets[who] = &modelTicket{label: label, task: -1}
}

// hears says that what was told is what should have been.
func (p *pair[T]) hears(what string) {
	if !slices.Equal(p.notes, p.model.notes) {
		p.fail(what+" tells", p.notes, p.model.notes)
	}
	p.notes, p.model.notes = nil, nil
}

// turn is what all functions of tasks do.
func (p *pair[T]) turn(got note[T]) {
	p.turns++
	p.notes = append(p.notes, got)
	p.hears("a turn")
	p.goOn()
}

// goOn does what is told, up to the end of the turn.
func (p *pair[T]) goOn() {
	for p.fault == "" {
		c, ok := p.next()
		if !ok || c.kind == "end" && p.model.running >= 0 {
			return
		}
		p.do(c)
		p.hears(c.String())
	}
}

func (p *pair[T]) do(c call) {
	at := c.at % len(p.chans)
	switch c.kind {
	case "make":
		p.make(at, int(c.p))
	case "ticket":
		p.ticket(c.who)
	case "try send", "try recv":
		p.try(c, p.chans[at], p.model.chans[at])
	case "close":
		p.same(c, p.chans[at].Close(), p.model.close(p.model.chans[at]))
	case "wait send", "wait recv":
		p.wait(c, p.chans[at], p.model.chans[at])
	case "forget":
		got, want := p.chans[at].Forget(p.tickets[c.who]), p.model.forget(p.model.chans[at], p.model.tickets[c.who])
		if got != want {
			p.fail(c.String(), got, want)
		}
	case "ask":
		p.compare()
	default:
		p.doTask(c, at)
	}
}

func (p *pair[T]) doTask(c call, at int) {
	id := c.who
	if id < 0 {
		id = max(0, p.model.running)
	}
	var task *csp.Task
	if id < len(p.tasks) {
		task = p.tasks[id]
	}
	label := p.label()
	woken := note[T]{what: "woken", label: label}
	switch c.kind {
	case "spawn":
		p.spawn()
	case "step":
		p.step(c)
	case "send":
		v := p.thing(label)
		e := Send(task, p.chans[at], v, func(ok bool) { p.turn(note[T]{what: "then", label: label, ok: ok}) })
		p.same(c, e, p.model.goes(id, p.model.chans[at], &modelWaiter[T]{sends: true, value: v, label: label}))
	case "recv":
		e := Recv(task, p.chans[at], func(v T, ok bool) { p.turn(note[T]{"then", label, v, ok}) })
		p.same(c, e, p.model.goes(id, p.model.chans[at], &modelWaiter[T]{label: label}))
	case "park":
		p.same(c, task.Park(func(int) { p.turn(woken) }), p.model.park(id, woken))
	case "wake":
		p.same(c, task.Wake(7), p.model.wake(id))
	}
}

func (p *pair[T]) same(c call, got, want api.Errno) {
	if got != want {
		p.fail(c.String(), int(got), int(want))
	}
}

func (p *pair[T]) try(c call, ch *Chan[T], m *modelChan[T]) {
	var got, want struct {
		v       T
		ok, can bool
	}
	if c.kind == "try send" {
		v := p.thing(p.label())
		got.ok, got.can = ch.TrySend(v)
		want.can = m.canSend(nil)
		want.ok = want.can && p.model.sendNow(m, v)
	} else {
		got.v, got.ok, got.can = ch.TryRecv()
		if want.can = m.canRecv(nil); want.can {
			want.v, want.ok = p.model.recvNow(m)
		}
	}
	if got != want {
		p.fail(c.String(), got, want)
	}
}

func (p *pair[T]) wait(c call, ch *Chan[T], m *modelChan[T]) {
	k, label := p.tickets[c.who], p.label()
	told := p.noter("told", label)
	var e api.Errno
	w := &modelWaiter[T]{sends: c.kind == "wait send", label: label}
	if w.sends {
		w.value = p.thing(label)
		var none T
		e = ch.WaitSend(w.value, k, func(ok bool) { told(none, ok) })
	} else {
		e = ch.WaitRecv(k, told)
	}
	p.same(c, e, p.model.wait(m, p.model.tickets[c.who], w))
}

func (p *pair[T]) spawn() {
	label := p.label()
	spawned := note[T]{what: "spawned", label: label}
	task, e := p.runtime.Spawn(func(*csp.Task) { p.turn(spawned) })
	if e != api.OK {
		p.fail("Spawn", e, api.OK)
	}
	p.tasks = append(p.tasks, task)
	p.model.tasks = append(p.model.tasks, &modelTask[T]{next: spawned})
	p.model.getReady(len(p.tasks) - 1)
}

func (p *pair[T]) step(c call) {
	can := p.model.canStep()
	turns := p.turns
	heard := can && p.model.begin(c.p)
	got := p.runtime.Step(c.p)
	if heard {
		p.model.end()
		turns++
	}
	if got != can || p.turns != turns {
		p.fail(fmt.Sprint(c, ": turns ", p.turns), got, fmt.Sprint(can, " ", turns))
	}
}

// compare asks all that can be asked.
func (p *pair[T]) compare() {
	for i, c := range p.chans {
		m := p.model.chans[i]
		if c.Len() != len(m.buffer) || c.Cap() != m.size || c.Closed() != m.closed || c.Runtime() != p.runtime {
			p.fail(fmt.Sprint("channel ", i), fmt.Sprint(c.Len(), c.Cap(), c.Closed()), *m)
		}
		for range 2 {
			send, recv := c.Can()
			if send != m.canSend(nil) || recv != m.canRecv(nil) {
				p.fail(fmt.Sprint("Can at ", i), fmt.Sprint(send, recv), *m)
			}
			senders, receivers := c.Waits()
			if senders != len(m.waiting(true, nil)) || receivers != len(m.waiting(false, nil)) {
				p.fail(fmt.Sprint("Waits at ", i), fmt.Sprint(senders, receivers), *m)
			}
		}
	}
	if got, want := p.runtime.Ready(), p.model.line; !slices.Equal(got, want) {
		p.fail("Ready", got, want)
	}
	if got, want := p.runtime.Parked(), p.model.those(parked); !slices.Equal(got, want) {
		p.fail("Parked", got, want)
	}
}

// all does calls, one by one, and lets all who are ready have their turns behind each.
func (p *pair[T]) all(calls ...call) {
	p.next = func() (call, bool) { return call{}, false }
	for _, c := range calls {
		p.do(c)
		p.hears(c.String())
		for p.fault == "" && p.model.canStep() {
			p.do(call{kind: "step"})
		}
		p.compare()
	}
}

// drain takes out all that is in the channels, of waiting senders too, then closes them, and asks once more.
func (p *pair[T]) drain() {
	p.all(call{kind: "ask"})
	for i, m := range p.model.chans {
		at := func(kind string) call { return call{kind: kind, at: i} }
		for p.fault == "" && !m.closed && m.canRecv(nil) {
			p.all(at("try recv"))
		}
		p.all(at("try send"), at("close"), at("try recv"), at("try recv"))
		for p.fault == "" && len(m.buffer) > 0 {
			p.all(at("try recv"))
		}
		p.all(at("try send"), at("try recv"), at("close"))
	}
	for id, task := range p.model.tasks {
		if p.fault == "" && task.unserved {
			p.fail("behind all closes", id, "nobody waits")
		}
	}
}

// numbers and texts are what goes through the channels; all are unlike, and none is nothing.
func numbers(n int) int { return n }

func texts(n int) string { return fmt.Sprint("text ", n) }

// everyRow tries all rows of so many calls, behind a beginning.
func everyRow[T comparable](t *testing.T, sizes []int, thing func(n int) T, beginning, calls []call, most int) {
	t.Helper()
	var try func(row []call, more int)
	try = func(row []call, more int) {
		p := newPair(sizes, 2, thing, ofRow(row))
		p.goOn()
		p.drain()
		if p.fault != "" {
			t.Fatalf("sizes %v, %v: %s", sizes, row, p.fault)
		}
		if more > 0 {
			for _, c := range calls {
				try(append(row[:len(row):len(row)], c), more-1)
			}
		}
	}
	try(beginning, most)
}

// ticketCalls are those of channel at that need no task.
func ticketCalls(at int) []call {
	calls := []call{{kind: "try send", at: at}, {kind: "try recv", at: at}, {kind: "close", at: at}}
	for who := range 2 {
		for _, kind := range []string{"wait send", "wait recv", "forget"} {
			calls = append(calls, call{kind: kind, at: at, who: who})
		}
	}
	return calls
}

// P16.1, P16.2, P16.4, P16.5: all short rows of calls by tickets at one channel, of each size.
func TestEveryTicketRow(t *testing.T) {
	for _, size := range []int{0, 1, 2} {
		t.Run(fmt.Sprint(size), func(t *testing.T) {
			t.Parallel()
			everyRow(t, []int{size}, numbers, nil, ticketCalls(0), 5)
		})
	}
}

// P16.1, P16.2, P16.4, P16.5: all short rows at two channels, at which the same two may wait.
func TestEveryRowOfTwo(t *testing.T) {
	calls := append(ticketCalls(0), ticketCalls(1)...)
	wait := func(at, who int) call { return call{kind: "wait recv", at: at, who: who} }
	for _, sizes := range [][]int{{0, 0}, {0, 1}} {
		for i, beginning := range [][]call{nil, {wait(0, 0), wait(0, 1), wait(1, 1), wait(1, 0)}} {
			t.Run(fmt.Sprint(sizes, i), func(t *testing.T) {
				t.Parallel()
				everyRow(t, sizes, texts, beginning, calls, 4-i)
			})
		}
	}
}

// taskCalls are those at a channel that tasks do, and what is done to them.
func taskCalls() []call {
	return []call{{kind: "step"}, {kind: "step", p: 4}, {kind: "end"}, {kind: "send", who: -1}, {kind: "recv", who: -1}, {kind: "close"}, {kind: "try send"}, {kind: "try recv"}, {kind: "wake"}}
}

// beginnings are what short rows of tasks stand behind: three new ones; two that wait to receive, or to send; one that does each, within its turn.
func beginnings() map[string][]call {
	spawn, end, step := call{kind: "spawn"}, call{kind: "end"}, call{kind: "step"}
	send, recv := call{kind: "send", who: -1}, call{kind: "recv", who: -1}
	three := []call{spawn, spawn, spawn}
	return map[string][]call{
		"new":  three,
		"recv": append(slices.Clone(three), step, recv, end, step, recv, end),
		"send": append(slices.Clone(three), step, send, end, step, send, end),
		"turn": append(slices.Clone(three), step, send, end, step, recv),
	}
}

// P16.1 to P16.4: all short rows of tasks' calls, behind each beginning, within turns and outside of them.
func TestEveryTaskRow(t *testing.T) {
	for name, beginning := range beginnings() {
		for _, size := range []int{0, 1} {
			t.Run(fmt.Sprint(name, size), func(t *testing.T) {
				t.Parallel()
				everyRow(t, []int{size}, numbers, beginning, taskCalls(), 5)
			})
		}
	}
}

// P16.1 to P16.5: all short rows in which tasks and tickets meet.
func TestEveryMixedRow(t *testing.T) {
	calls := append(ticketCalls(0), taskCalls()[:5]...)
	for name, beginning := range beginnings() {
		for _, size := range []int{0, 1} {
			t.Run(fmt.Sprint(name, size), func(t *testing.T) {
				t.Parallel()
				everyRow(t, []int{size}, texts, beginning, calls, 4)
			})
		}
	}
}

// row tells numbers without a pattern, always the same ones.
func row(seed uint64) func(below int) int {
	return func(below int) int {
		seed = seed*6364136223846793005 + 1442695040888963407
		return int((bits.Reverse64(seed) ^ seed>>7) % uint64(below))
	}
}

// drawnTask is a task at random: mostly the one whose turn it is, or one that is parked, or any of the last ones, or none.
func drawnTask[T comparable](next func(int) int, m *model[T]) int {
	waits := m.those(parked)
	switch k := next(20); {
	case k < 16:
		return -1
	case k < 18 && len(waits) > 0:
		return waits[next(len(waits))]
	}
	return max(0, len(m.tasks)-next(9))
}

// weights are how often each kind of call is drawn, in parts of their sum.
func weights() []struct {
	kind string
	part int
} {
	return []struct {
		kind string
		part int
	}{{"try send", 5}, {"try recv", 5}, {"wait send", 6}, {"wait recv", 6}, {"forget", 2}, {"ticket", 3}, {"send", 14}, {"recv", 14}, {"step", 14}, {"end", 14}, {"spawn", 2}, {"wake", 3}, {"park", 1}, {"close", 1}, {"ask", 2}}
}

func drawnKind(next func(int) int) string {
	sum := 0
	for _, w := range weights() {
		sum += w.part
	}
	k := next(sum)
	for _, w := range weights() {
		if k -= w.part; k < 0 {
			return w.kind
		}
	}
	return "ask"
}

// drawnCall is a call at random. There are few tasks at a time; a channel that was closed is soon another one.
func drawnCall[T comparable](next func(int) int, m *model[T]) call {
	c := call{kind: drawnKind(next), at: next(len(m.chans)), p: uint64(next(1000))}
	alive := len(m.tasks) - len(m.those(over))
	switch {
	case alive < 3 || c.kind == "spawn" && alive < 20:
		return call{kind: "spawn"}
	case c.kind == "spawn", c.kind == "close" && next(4) > 0:
		return call{kind: "ask"}
	case m.chans[c.at].closed && next(20) == 0:
		return call{kind: "make", at: c.at, p: uint64([]int{0, 0, 0, 1, 1, 2, 3, 7, 64}[next(9)])}
	}
	switch c.kind {
	case "wait send", "wait recv", "forget", "ticket":
		c.who = next(len(m.tickets))
	default:
		c.who = drawnTask(next, m)
	}
	return c
}

// drawnRow does a long row of calls at random, and asks in between or not; it tells how often there were many who waited at a channel.
func drawnRow[T comparable](t *testing.T, seed uint64, thing func(n int) T, asks bool) int {
	t.Helper()
	next, steps, many := row(seed), 0, 0
	var p *pair[T]
	p = newPair([]int{0, 1, 3}, 8, thing, func() (call, bool) {
		steps++
		c := drawnCall(next, p.model)
		if len(p.model.chans[0].waiting(true, nil)) > 5 {
			many++
		}
		if asks && p.fault == "" {
			p.compare()
		}
		if c.kind == "ask" && !asks {
			c.kind = "end"
		}
		return c, steps < 3000
	})
	p.goOn()
	p.drain()
	if p.fault != "" {
		t.Fatalf("seed %d, step %d: %s", seed, steps, p.fault)
	}
	return many
}

// P16.1 to P16.5: long rows of all calls, with numbers and with texts. R4: the same ones, whether or not something is asked in between.
func TestDrawnRows(t *testing.T) {
	t.Parallel()
	many := 0
	for seed := range uint64(20) {
		for _, asks := range []bool{false, true} {
			many += drawnRow(t, seed, numbers, asks)
			many += drawnRow(t, seed+1000, texts, asks)
		}
	}
	if many < 1000 {
		t.Errorf("many waited at %d steps alone", many)
	}
}
