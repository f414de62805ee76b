package timer

import (
	"fmt"
	"math/bits"
	"slices"
	"testing"

	"conduit/api"
	"conduit/chans"
	"conduit/csp"
)

// note is what a function is told that was handed in: which function it is, and the rest.
type note struct {
	what  string
	label int
	value int64
	ok    bool
}

// standing is how a task stands; one that is silent is running and has not said how it goes on.
type standing uint8

const (
	silent standing = iota
	ready
	parked
	over
)

// modelTask is a task; one that is unserved sleeps, or waits at a channel, even if somebody else has woken it.
type modelTask struct {
	is       standing
	unserved bool
	next     note
}

type modelWaiter struct {
	task   int
	sends  bool
	value  int64
	label  int
	served bool
}

// modelChan is a channel of a timer by the chapters' words: all that ever waited are kept, in the order in which they came.
type modelChan struct {
	closed bool
	buffer []int64
	ever   []*modelWaiter
}

func (c *modelChan) waiting(sends bool) []*modelWaiter {
	var those []*modelWaiter
	for _, w := range c.ever {
		if w.sends == sends && !w.served {
			those = append(those, w)
		}
	}
	return those
}

func (c *modelChan) can(sends bool) bool {
	if sends {
		return c.closed || len(c.buffer) == 0 || len(c.waiting(false)) > 0
	}
	return c.closed || len(c.buffer) > 0 || len(c.waiting(true)) > 0
}

// modelTimer is one that was ever made: somebody sleeps by it, or it has a channel.
type modelTimer struct {
	due   int64
	gone  bool
	task  int
	label int
	ch    *modelChan
}

type modelClock struct {
	now    int64
	timers []*modelTimer
}

func (c *modelClock) waits() int {
	count := 0
	for _, w := range c.timers {
		if !w.gone {
			count++
		}
	}
	return count
}

// model is clocks, the channels of their timers, and tasks; running is -1 outside of a turn.
type model struct {
	clocks  []*modelClock
	chans   []*modelChan
	tasks   []*modelTask
	line    []int
	running int
	notes   []note
	// crowds is how many ticks fired more than two timers.
	crowds int
}

func (m *model) getReady(id int) {
	m.tasks[id].is = ready
	m.line = append(m.line, id)
}

// serve lets a task know what it waits for.
func (m *model) serve(id int, told note) {
	m.tasks[id].unserved, m.tasks[id].next = false, told
	if m.tasks[id].is == parked {
		m.getReady(id)
	}
}

func (m *model) serveAt(w *modelWaiter, v int64, ok bool) {
	w.served = true
	m.serve(w.task, note{"then", w.label, v, ok})
}

func (m *model) send(c *modelChan, v int64) bool {
	switch receivers := c.waiting(false); {
	case c.closed:
		return false
	case len(receivers) > 0:
		m.serveAt(receivers[0], v, true)
	default:
		c.buffer = append(c.buffer, v)
	}
	return true
}

func (m *model) recv(c *modelChan) (int64, bool) {
	if len(c.buffer) == 0 {
		return 0, false
	}
	v := c.buffer[0]
	c.buffer = c.buffer[1:]
	if senders := c.waiting(true); len(senders) > 0 {
		c.buffer = append(c.buffer, senders[0].value)
		m.serveAt(senders[0], 0, true)
	}
	return v, true
}

func (m *model) close(c *modelChan) api.Errno {
	if c.closed {
		return api.ErrClosed
	}
	c.closed = true
	for _, w := range slices.Concat(c.waiting(false), c.waiting(true)) {
		m.serveAt(w, 0, false)
	}
	return api.OK
}

// says is what a task is answered that says how it goes on.
func (m *model) says(id int) api.Errno {
	switch {
	case id >= len(m.tasks):
		return api.ErrNil
	case id != m.running:
		return api.ErrOver
	case m.tasks[id].is != silent:
		return api.ErrBusy
	}
	return api.OK
}

func (m *model) yield(id int, next note) {
	m.tasks[id].next = next
	m.getReady(id)
}

func (m *model) parks(id int) {
	m.tasks[id].is, m.tasks[id].unserved = parked, true
}

// goes is a Send or a Recv of a task.
func (m *model) goes(id int, c *modelChan, sends bool, v int64, label int) api.Errno {
	if e := m.says(id); e != api.OK {
		return e
	}
	switch {
	case !c.can(sends):
		c.ever = append(c.ever, &modelWaiter{task: id, sends: sends, value: v, label: label})
		m.parks(id)
	case sends:
		m.yield(id, note{"then", label, 0, m.send(c, v)})
	default:
		v, ok := m.recv(c)
		m.yield(id, note{"then", label, v, ok})
	}
	return api.OK
}

const most = 1 << 40

func (m *model) sleep(c *modelClock, id int, d int64, label int) (int, api.Errno) {
	switch e := m.says(id); {
	case e == api.ErrNil:
		return 0, e
	case d > most:
		return 0, api.ErrArg
	case e != api.OK:
		return 0, e
	case d <= 0:
		m.yield(id, note{"then", label, c.now, true})
	default:
		m.parks(id)
	}
	return c.make(&modelTimer{task: id, label: label}, d), api.OK
}

func (c *modelClock) make(w *modelTimer, d int64) int {
	if w.gone = d <= 0; !w.gone {
		w.due = c.now + d
	}
	c.timers = append(c.timers, w)
	return len(c.timers) - 1
}

func (m *model) after(c *modelClock, d int64) (int, api.Errno) {
	if d > most {
		return 0, api.ErrArg
	}
	ch := &modelChan{}
	if d <= 0 {
		ch.buffer, ch.closed = []int64{c.now}, true
	}
	m.chans = append(m.chans, ch)
	return c.make(&modelTimer{task: -1, ch: ch}, d), api.OK
}

// tells lets who waits for a timer know that it has fired, or that it was stopped.
func (m *model) tells(w *modelTimer, now int64, ok bool) {
	w.gone = true
	if w.task >= 0 {
		m.serve(w.task, note{"then", w.label, now, ok})
		return
	}
	if ok && w.ch.can(true) {
		m.send(w.ch, now)
	}
	m.close(w.ch)
}

func (m *model) stop(c *modelClock, no int) bool {
	if no < 0 || no >= len(c.timers) || c.timers[no].gone {
		return false
	}
	m.tells(c.timers[no], 0, false)
	return true
}

func (m *model) tick(c *modelClock) int {
	c.now++
	count := 0
	// Nothing is ever due at an earlier time, so that the numbers alone tell the order.
	for _, w := range c.timers {
		if !w.gone && w.due == c.now {
			m.tells(w, c.now, true)
			count++
		}
	}
	if count > 2 {
		m.crowds++
	}
	return count
}

func (m *model) wake(id int) api.Errno {
	switch {
	case id >= len(m.tasks):
		return api.ErrNil
	case m.tasks[id].is != parked:
		return api.ErrOver
	}
	m.getReady(id)
	return api.OK
}

func (m *model) canStep() bool {
	return m.running < 0 && len(m.line) > 0
}

// begin is the beginning of a turn, and whether a function that was handed in has it: a task that waits parks again.
func (m *model) begin(p uint64) bool {
	place := int(p % uint64(len(m.line)))
	id := m.line[place]
	m.line = slices.Delete(m.line, place, place+1)
	task := m.tasks[id]
	if task.unserved {
		task.is = parked
		return false
	}
	task.is, m.running = silent, id
	m.notes = append(m.notes, task.next)
	return true
}

func (m *model) end() {
	if task := m.tasks[m.running]; task.is == silent {
		task.is = over
	}
	m.running = -1
}

// those are the tasks that stand so, by rising numbers.
func (m *model) those(is standing) []int {
	var ids []int
	for id, task := range m.tasks {
		if task.is == is {
			ids = append(ids, id)
		}
	}
	return ids
}

// call is one thing that is done, within a turn or outside of one: by a clock, of a number (a delay, a timer, a pick), by a task, at a channel. A task of -1 is the one whose turn it is, or else the first; a channel below 0 is counted from the last one on. An end ends the turn.
type call struct {
	kind  string
	clock int
	n     int64
	who   int
	at    int
}

func (c call) String() string {
	return fmt.Sprintf("%s %d by clock %d, task %d at %d", c.kind, c.n, c.clock, c.who, c.at)
}

// pair is clocks and tasks, and what they should be. Its tasks do in their turns what next tells; with nothing told they say nothing, and are over.
type pair struct {
	runtime *csp.Runtime
	clocks  []*Clock
	chans   []*chans.Chan[int64]
	tasks   []*csp.Task
	model   *model
	next    func() (call, bool)
	labels  int
	turns   int
	notes   []note
	fault   string
}

func newPair(clocks int, next func() (call, bool)) *pair {
	p := &pair{runtime: csp.New(), model: &model{running: -1}, next: next}
	for range clocks {
		c, e := New(p.runtime)
		if e != api.OK {
			p.fail("New", e, api.OK)
		}
		p.clocks, p.model.clocks = append(p.clocks, c), append(p.model.clocks, &modelClock{})
	}
	return p
}

// ofRow tells the calls of a row, then asks once for what there is: behind the last one alone, so that no asking can help.
func ofRow(row []call) func() (call, bool) {
	at := 0
	return func() (call, bool) {
		at++
		switch {
		case at <= len(row):
			return row[at-1], true
		case at == len(row)+1:
			return call{kind: "ask"}, true
		}
		return call{}, false
	}
}

// fail notes the first fault.
func (p *pair) fail(what string, got, want any) {
	if p.fault == "" {
		p.fault = fmt.Sprintf("%s: %v, want %v", what, got, want)
	}
}

func (p *pair) same(what string, got, want any) {
	if got != want {
		p.fail(what, got, want)
	}
}

// label numbers a function, and the value that goes with it, if any: a negative one, as no time is.
func (p *pair) label() (int, int64) {
	p.labels++
	return p.labels, -int64(p.labels)
}

// hears says that what was told is what should have been.
func (p *pair) hears(what string) {
	if !slices.Equal(p.notes, p.model.notes) {
		p.fail(what+" tells", p.notes, p.model.notes)
	}
	p.notes, p.model.notes = nil, nil
}

// turn is what all functions of tasks do.
func (p *pair) turn(got note) {
	p.turns++
	p.notes = append(p.notes, got)
	p.hears("a turn")
	p.goOn()
}

// then is a function that is told something, of a label.
func (p *pair) then(label int) func(v int64, ok bool) {
	return func(v int64, ok bool) { p.turn(note{"then", label, v, ok}) }
}

// goOn does what is told, up to the end of the turn.
func (p *pair) goOn() {
	for p.fault == "" {
		c, ok := p.next()
		if !ok || c.kind == "end" && p.model.running >= 0 {
			return
		}
		p.do(c)
		p.hears(c.String())
	}
}

func (p *pair) do(c call) {
	clock, m := p.clocks[c.clock], p.model.clocks[c.clock]
	switch c.kind {
	case "after":
		p.after(c)
	case "stop":
		p.same(c.String(), clock.Stop(int(c.n)), p.model.stop(m, int(c.n)))
	case "tick":
		p.same(c.String(), clock.Tick(), p.model.tick(m))
	case "ask":
		p.compare()
	case "spawn":
		p.spawn()
	case "step":
		p.step(c)
	case "sleep", "wake":
		p.doTask(c)
	default:
		p.doChan(c)
	}
}

// task is the one that a call names, and its number: a task that is none behind the last one.
func (p *pair) task(c call) (*csp.Task, int) {
	id := c.who
	if id < 0 {
		id = max(0, p.model.running)
	}
	if id < len(p.tasks) {
		return p.tasks[id], id
	}
	return nil, id
}

func (p *pair) doTask(c call) {
	task, id := p.task(c)
	if c.kind == "wake" {
		p.same(c.String(), task.Wake(7), p.model.wake(id))
		return
	}
	label, _ := p.label()
	no, e := p.clocks[c.clock].Sleep(task, c.n, p.then(label))
	wantNo, want := p.model.sleep(p.model.clocks[c.clock], id, c.n, label)
	p.same(c.String(), e, want)
	p.same(c.String()+": number", no, wantNo)
}

func (p *pair) after(c call) {
	x, no, e := p.clocks[c.clock].After(c.n)
	wantNo, want := p.model.after(p.model.clocks[c.clock], c.n)
	p.same(c.String(), e, want)
	p.same(c.String()+": number", no, wantNo)
	p.same(c.String()+": a channel", x != nil, want == api.OK)
	if x != nil {
		p.chans = append(p.chans, x)
	}
}

// doChan is what is done at a channel of a timer; where there is none yet, nothing.
func (p *pair) doChan(c call) {
	at := c.at
	if at < 0 {
		at += len(p.chans)
	}
	if at < 0 || at >= len(p.chans) {
		return
	}
	ch, m := p.chans[at], p.model.chans[at]
	task, id := p.task(c)
	label, v := p.label()
	then := p.then(label)
	switch c.kind {
	case "recv":
		p.same(c.String(), chans.Recv(task, ch, then), p.model.goes(id, m, false, 0, label))
	case "send":
		e := chans.Send(task, ch, v, func(ok bool) { then(0, ok) })
		p.same(c.String(), e, p.model.goes(id, m, true, v, label))
	case "try recv":
		p.tryRecv(c, ch, m)
	case "try send":
		ok, can := ch.TrySend(v)
		wantCan := m.can(true)
		wantOk := wantCan && p.model.send(m, v)
		p.same(c.String(), ok, wantOk)
		p.same(c.String(), can, wantCan)
	case "close":
		p.same(c.String(), ch.Close(), p.model.close(m))
	}
}

func (p *pair) tryRecv(c call, ch *chans.Chan[int64], m *modelChan) {
	var want note
	v, ok, can := ch.TryRecv()
	wantCan := m.can(false)
	if wantCan {
		want.value, want.ok = p.model.recv(m)
	}
	p.same(c.String(), note{value: v, ok: ok}, want)
	p.same(c.String(), can, wantCan)
}

func (p *pair) spawn() {
	label, _ := p.label()
	spawned := note{what: "spawned", label: label}
	task, e := p.runtime.Spawn(func(*csp.Task) { p.turn(spawned) })
	p.same("Spawn", e, api.OK)
	p.tasks = append(p.tasks, task)
	p.model.tasks = append(p.model.tasks, &modelTask{next: spawned})
	p.model.getReady(len(p.tasks) - 1)
}

func (p *pair) step(c call) {
	can := p.model.canStep()
	turns := p.turns
	heard := can && p.model.begin(uint64(c.n))
	got := p.runtime.Step(uint64(c.n))
	if heard {
		p.model.end()
		turns++
	}
	if got != can || p.turns != turns {
		p.fail(fmt.Sprint(c, ": turns ", p.turns), got, fmt.Sprint(can, " ", turns))
	}
}

// compare asks all that can be asked.
func (p *pair) compare() {
	for i, c := range p.clocks {
		m := p.model.clocks[i]
		p.same(fmt.Sprint("clock ", i, ": Now"), c.Now(), m.now)
		p.same(fmt.Sprint("clock ", i, ": Waits"), c.Waits(), m.waits())
	}
	for i, c := range p.chans {
		m := p.model.chans[i]
		want := look{len(m.buffer), 1, m.closed, len(m.waiting(true)), len(m.waiting(false)), m.can(true), m.can(false)}
		p.same(fmt.Sprint("channel ", i), lookAt(c), want)
	}
	if got, want := p.runtime.Ready(), p.model.line; !slices.Equal(got, want) {
		p.fail("Ready", got, want)
	}
	if got, want := p.runtime.Parked(), p.model.those(parked); !slices.Equal(got, want) {
		p.fail("Parked", got, want)
	}
}

// all does calls, one by one, and lets all who are ready have their turns behind each.
func (p *pair) all(calls ...call) {
	p.next = func() (call, bool) { return call{}, false }
	for _, c := range calls {
		p.do(c)
		p.hears(c.String())
		for p.fault == "" && p.model.canStep() {
			p.do(call{kind: "step"})
		}
		p.compare()
	}
}

// drain lets some ticks pass, then stops what still waits: all are over behind it.
func (p *pair) drain() {
	p.all(call{kind: "ask"})
	for i, m := range p.model.clocks {
		for range 3 {
			p.all(call{kind: "tick", clock: i})
		}
		for no, w := range m.timers {
			if p.fault == "" && !w.gone {
				p.all(call{kind: "stop", clock: i, n: int64(no)})
			}
		}
	}
	for i, m := range p.model.chans {
		for p.fault == "" && len(m.buffer) > 0 {
			p.all(call{kind: "try recv", at: i})
		}
	}
	for id, task := range p.model.tasks {
		if p.fault == "" && task.is != over {
			p.fail("behind all timers", id, "all are over")
		}
	}
}

// everyRow tries all rows of so many calls, behind a beginning.
func everyRow(t *testing.T, clocks int, beginning, calls []call, most int) {
	t.Helper()
	var try func(row []call, more int)
	try = func(row []call, more int) {
		p := newPair(clocks, ofRow(row))
		p.goOn()
		p.drain()
		if p.fault != "" {
			t.Fatalf("%v: %s", row, p.fault)
		}
		if more > 0 {
			for _, c := range calls {
				try(append(row[:len(row):len(row)], c), more-1)
			}
		}
	}
	try(beginning, most)
}

func sleepCall(d int64) call { return call{kind: "sleep", who: -1, n: d} }

func afterCall(d int64) call { return call{kind: "after", n: d} }

var (
	spawnCall = call{kind: "spawn"}
	stepCall  = call{kind: "step"}
	endCall   = call{kind: "end"}
	tickCall  = call{kind: "tick"}
)

// beginnings are what short rows stand behind: three new tasks; two that sleep; one that sleeps, one that receives from a channel of a timer, and one in its turn.
func beginnings() map[string][]call {
	three := []call{spawnCall, spawnCall, spawnCall}
	recv := call{kind: "recv", who: -1, at: -1}
	return map[string][]call{
		"new":   three,
		"sleep": append(slices.Clone(three), stepCall, sleepCall(2), endCall, stepCall, sleepCall(1), endCall),
		"turn":  append(slices.Clone(three), afterCall(1), stepCall, sleepCall(2), endCall, stepCall, recv, endCall, stepCall),
	}
}

// P18.1 to P18.6: all short rows of tasks that sleep, and of what is done with the clock, behind each beginning.
func TestEveryRow(t *testing.T) {
	calls := []call{sleepCall(0), sleepCall(1), sleepCall(2), sleepCall(most + 1), stepCall, {kind: "step", n: 5}, endCall, {kind: "wake"}, {kind: "stop"}, {kind: "stop", n: 1}, tickCall}
	for name, beginning := range beginnings() {
		t.Run(name, func(t *testing.T) {
			t.Parallel()
			everyRow(t, 1, beginning, calls, 4)
		})
	}
}

// P18.1 to P18.6: all short rows in which channels of timers are made, received from, and meddled with.
func TestEveryRowOfChannels(t *testing.T) {
	recv := call{kind: "recv", who: -1, at: -1}
	send := call{kind: "send", who: -1, at: -1}
	calls := []call{afterCall(0), afterCall(1), sleepCall(1), recv, send, stepCall, endCall, {kind: "try recv"}, {kind: "close"}, {kind: "stop", n: 2}, tickCall}
	for name, beginning := range beginnings() {
		t.Run(name, func(t *testing.T) {
			t.Parallel()
			everyRow(t, 1, beginning, calls, 4)
		})
	}
}

// P18.5: all short rows with two clocks.
func TestEveryRowOfTwoClocks(t *testing.T) {
	var calls []call
	for clock := range 2 {
		calls = append(calls, call{kind: "sleep", who: -1, n: 1, clock: clock}, call{kind: "after", n: 2, clock: clock}, call{kind: "tick", clock: clock}, call{kind: "stop", clock: clock})
	}
	calls = append(calls, stepCall, endCall)
	for name, beginning := range beginnings() {
		t.Run(name, func(t *testing.T) {
			t.Parallel()
			everyRow(t, 2, beginning, calls, 4)
		})
	}
}

// row tells numbers without a pattern, always the same ones.
func row(seed uint64) func(below int) int {
	return func(below int) int {
		seed = seed*6364136223846793005 + 1442695040888963407
		return int((bits.Reverse64(seed) ^ seed>>7) % uint64(below))
	}
}

// drawnTask is a task at random: mostly the one whose turn it is, or one that is parked, or any of the last ones, or none.
func drawnTask(next func(int) int, m *model) int {
	waits := m.those(parked)
	switch k := next(20); {
	case k < 16:
		return -1
	case k < 18 && len(waits) > 0:
		return waits[next(len(waits))]
	}
	return max(0, len(m.tasks)-next(9))
}

type weight struct {
	kind string
	part int
}

// weights are how often each kind of call is drawn, in parts of their sum: outside of a turn, by who has it and has not said how it goes on, and by who has said it.
func weights(m *model) []weight {
	switch {
	case m.running < 0:
		return []weight{{"step", 40}, {"tick", 6}, {"after", 4}, {"stop", 4}, {"spawn", 4}, {"wake", 4}, {"try recv", 3}, {"try send", 1}, {"close", 1}, {"ask", 2}, {"sleep", 2}}
	case m.tasks[m.running].is == silent:
		return []weight{{"sleep", 40}, {"recv", 12}, {"send", 2}, {"end", 3}, {"after", 4}, {"stop", 2}, {"tick", 2}, {"wake", 2}, {"step", 1}, {"ask", 1}}
	}
	return []weight{{"end", 40}, {"sleep", 3}, {"after", 4}, {"stop", 3}, {"tick", 2}, {"wake", 4}, {"try recv", 2}, {"close", 1}, {"ask", 1}, {"step", 1}}
}

func drawnKind(next func(int) int, from []weight) string {
	sum := 0
	for _, w := range from {
		sum += w.part
	}
	k := next(sum)
	for _, w := range from {
		if k -= w.part; k < 0 {
			return w.kind
		}
	}
	return "ask"
}

// drawnDelay is mostly short; longer ones come at times, so that timers of unlike age are due in one tick.
func drawnDelay(next func(int) int) int64 {
	switch next(12) {
	case 0:
		return int64(-next(3))
	case 1:
		return int64(most + next(3))
	case 2, 3:
		return int64(next(40))
	}
	return int64(1 + next(6))
}

// drawnCall is a call at random, mostly about the last timers and channels.
func drawnCall(next func(int) int, m *model) call {
	c := call{kind: drawnKind(next, weights(m)), clock: next(len(m.clocks)), at: -1 - next(6), who: drawnTask(next, m)}
	alive := len(m.tasks) - len(m.those(over))
	switch {
	case alive < 3 || c.kind == "spawn" && alive < 30:
		return spawnCall
	case c.kind == "spawn":
		return call{kind: "ask"}
	}
	switch c.kind {
	case "sleep", "after":
		c.n = drawnDelay(next)
	case "stop":
		c.n = int64(len(m.clocks[c.clock].timers) - next(20))
	case "step":
		c.n = int64(next(10000))
	}
	return c
}

// drawnRow does a long row of calls at random, and asks in between or not; it tells how many ticks fired many.
func drawnRow(t *testing.T, seed uint64, clocks int, asks bool) int {
	t.Helper()
	next, steps := row(seed), 0
	var p *pair
	p = newPair(clocks, func() (call, bool) {
		steps++
		c := drawnCall(next, p.model)
		if asks && p.fault == "" {
			p.compare()
		}
		if c.kind == "ask" && !asks {
			c.kind = "end"
		}
		return c, steps < 2500
	})
	p.goOn()
	p.drain()
	if p.fault != "" {
		t.Fatalf("seed %d, step %d: %s", seed, steps, p.fault)
	}
	return p.model.crowds
}

// P18.1 to P18.6: long rows of all calls, by one clock and by three. R4: the same ones, whether or not something is asked in between.
func TestDrawnRows(t *testing.T) {
	t.Parallel()
	crowds := 0
	for seed := range uint64(20) {
		for _, clocks := range []int{1, 3} {
			for _, asks := range []bool{false, true} {
				crowds += drawnRow(t, seed, clocks, asks)
			}
		}
	}
	if crowds < 500 {
		t.Errorf("%d ticks alone fired many", crowds)
	}
}
