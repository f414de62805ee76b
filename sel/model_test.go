package sel

import (
	"fmt"
	"math/bits"
	"slices"
	"testing"

	"conduit/api"
	"conduit/chans"
	"conduit/csp"
)

// note is what a function is told that was handed in: which function it is, and the rest.
type note[T comparable] struct {
	what  string
	label int
	value T
	ok    bool
}

// modelTicket is who waits: a task, or somebody else of that label, with a task of -1.
type modelTicket struct {
	label int
	task  int
	fired bool
}

type modelWaiter[T comparable] struct {
	ticket *modelTicket
	sends  bool
	value  T
	label  int
}

// modelChan is a channel by the chapters' words: all that ever waited are kept, in the order in which they came.
type modelChan[T comparable] struct {
	size   int
	closed bool
	buffer []T
	ever   []*modelWaiter[T]
}

// waiting are those who wait to send, or to receive.
func (c *modelChan[T]) waiting(sends bool) []*modelWaiter[T] {
	var those []*modelWaiter[T]
	for _, w := range c.ever {
		if w.sends == sends && !w.ticket.fired {
			those = append(those, w)
		}
	}
	return those
}

func (c *modelChan[T]) can(sends bool) bool {
	if sends {
		return c.closed || len(c.waiting(false)) > 0 || len(c.buffer) < c.size
	}
	return len(c.buffer) > 0 || len(c.waiting(true)) > 0 || c.closed
}

// modelCase is a case: label is that of its then.
type modelCase[T comparable] struct {
	at    int
	sends bool
	value T
	label int
}

// standing is how a task stands; one that is silent is running and has not said how it goes on.
type standing uint8

const (
	silent standing = iota
	ready
	parked
	over
)

// modelTask is a task; one that is unserved waits at channels, even if somebody else has woken it.
type modelTask[T comparable] struct {
	is       standing
	unserved bool
	next     note[T]
}

// model is channels, and the tasks that select at them; running is -1 outside of a turn, left what is left of its pick.
type model[T comparable] struct {
	chans   []*modelChan[T]
	tasks   []*modelTask[T]
	line    []int
	running int
	left    uint64
	notes   []note[T]
	// chosen is how often a case was chosen among others, waits how often a task began to wait at several.
	chosen, waits int
}

func (m *model[T]) getReady(id int) {
	m.tasks[id].is = ready
	m.line = append(m.line, id)
}

func (m *model[T]) serve(w *modelWaiter[T], v T, ok bool) {
	w.ticket.fired = true
	id := w.ticket.task
	if id < 0 {
		m.notes = append(m.notes, note[T]{"told", w.label, v, ok}, note[T]{what: "fired", label: w.ticket.label})
		return
	}
	m.tasks[id].unserved, m.tasks[id].next = false, note[T]{"then", w.label, v, ok}
	if m.tasks[id].is == parked {
		m.getReady(id)
	}
}

// do is a send or a receive that can be now: what is told of it.
func (m *model[T]) do(c *modelChan[T], sends bool, v T) (T, bool) {
	var none T
	senders, receivers := c.waiting(true), c.waiting(false)
	switch {
	case sends && c.closed:
		return none, false
	case sends && len(receivers) > 0:
		m.serve(receivers[0], v, true)
		return none, true
	case sends:
		c.buffer = append(c.buffer, v)
		return none, true
	case len(c.buffer) > 0:
		v := c.buffer[0]
		c.buffer = c.buffer[1:]
		if len(senders) > 0 {
			m.serve(senders[0], none, true)
			c.buffer = append(c.buffer, senders[0].value)
		}
		return v, true
	case len(senders) > 0:
		m.serve(senders[0], none, true)
		return senders[0].value, true
	}
	return none, false
}

func (m *model[T]) close(c *modelChan[T]) api.Errno {
	if c.closed {
		return api.ErrClosed
	}
	c.closed = true
	var none T
	for _, sends := range []bool{false, true} {
		for w := c.waiting(sends); len(w) > 0; w = c.waiting(sends) {
			m.serve(w[0], none, false)
		}
	}
	return api.OK
}

// choice is a Choice within a turn.
func (m *model[T]) choice(n int) int {
	if m.running < 0 || n <= 0 {
		return 0
	}
	chosen := int(m.left % uint64(n))
	m.left /= uint64(n)
	return chosen
}

// says is what a task is answered that says how it goes on.
func (m *model[T]) says(id int) api.Errno {
	switch {
	case id != m.running:
		return api.ErrOver
	case m.tasks[id].is != silent:
		return api.ErrBusy
	}
	return api.OK
}

func (m *model[T]) yield(id int, next note[T]) {
	m.tasks[id].next = next
	m.getReady(id)
}

// selects is a Select of a task; an otherwise of 0 is none.
func (m *model[T]) selects(id int, cases []modelCase[T], otherwise int) api.Errno {
	switch {
	case id >= len(m.tasks):
		return api.ErrNil
	case len(cases) > 16:
		return api.ErrLong
	case len(cases) == 0 && otherwise == 0:
		return api.ErrArg
	case m.says(id) != api.OK:
		return m.says(id)
	}
	var able []modelCase[T]
	for _, c := range cases {
		if m.chans[c.at].can(c.sends) {
			able = append(able, c)
		}
	}
	if len(able) > 0 {
		m.chosen += min(1, len(able)-1)
		c := able[m.choice(len(able))]
		v, ok := m.do(m.chans[c.at], c.sends, c.value)
		m.yield(id, note[T]{"then", c.label, v, ok})
		return api.OK
	}
	if otherwise > 0 {
		m.yield(id, note[T]{what: "then", label: otherwise})
		return api.OK
	}
	m.waits += min(1, len(cases)-1)
	k := &modelTicket{task: id}
	for _, c := range cases {
		m.chans[c.at].ever = append(m.chans[c.at].ever, &modelWaiter[T]{k, c.sends, c.value, c.label})
	}
	m.tasks[id].is, m.tasks[id].unserved = parked, true
	return api.OK
}

func (m *model[T]) wake(id int) api.Errno {
	switch {
	case id >= len(m.tasks):
		return api.ErrNil
	case m.tasks[id].is != parked:
		return api.ErrOver
	}
	m.getReady(id)
	return api.OK
}

func (m *model[T]) canStep() bool {
	return m.running < 0 && len(m.line) > 0
}

// begin is the beginning of a turn, and whether a function that was handed in has it: a task that waits parks again.
func (m *model[T]) begin(p uint64) bool {
	n := uint64(len(m.line))
	place := int(p % n)
	id := m.line[place]
	m.line = slices.Delete(m.line, place, place+1)
	task := m.tasks[id]
	if task.unserved {
		task.is = parked
		return false
	}
	task.is, m.running, m.left = silent, id, p/n
	m.notes = append(m.notes, task.next)
	return true
}

func (m *model[T]) end() {
	if task := m.tasks[m.running]; task.is == silent {
		task.is = over
	}
	m.running = -1
}

// those are the tasks that stand so, by rising numbers.
func (m *model[T]) those(is standing) []int {
	var ids []int
	for id, task := range m.tasks {
		if task.is == is {
			ids = append(ids, id)
		}
	}
	return ids
}

// place is where a case of a call is: at which channel, to send or to receive there.
type place struct {
	at    int
	sends bool
}

// call is one thing that is done, within a turn or outside of one. A task of -1 is the one whose turn it is, or else the first. An end ends the turn.
type call struct {
	kind      string
	who       int
	p         uint64
	places    []place
	otherwise bool
}

func (c call) String() string {
	return fmt.Sprintf("%s at %v by %d, %d, %v", c.kind, c.places, c.who, c.p, c.otherwise)
}

// pair is channels and tasks, and what they should be. Its tasks do in their turns what next tells; with nothing told they say nothing, and are over. thing tells the n-th value that is sent.
type pair[T comparable] struct {
	runtime *csp.Runtime
	chans   []*chans.Chan[T]
	tasks   []*csp.Task
	model   *model[T]
	thing   func(n int) T
	next    func() (call, bool)
	labels  int
	turns   int
	notes   []note[T]
	fault   string
}

func newPair[T comparable](sizes []int, thing func(n int) T, next func() (call, bool)) *pair[T] {
	p := &pair[T]{runtime: csp.New(), model: &model[T]{running: -1}, thing: thing, next: next}
	p.chans, p.model.chans = make([]*chans.Chan[T], len(sizes)), make([]*modelChan[T], len(sizes))
	for i, size := range sizes {
		p.make(i, size)
	}
	return p
}

// ofRow tells the calls of a row, then asks once for what there is: behind the last one alone, so that no asking can help.
func ofRow(row []call) func() (call, bool) {
	at := 0
	return func() (call, bool) {
		at++
		switch {
		case at <= len(row):
			return row[at-1], true
		case at == len(row)+1:
			return call{kind: "ask"}, true
		}
		return call{}, false
	}
}

// fail notes the first fault.
func (p *pair[T]) fail(what string, got, want any) {
	if p.fault == "" {
		p.fault = fmt.Sprintf("%s: %v, want %v", what, got, want)
	}
}

func (p *pair[T]) same(c call, got, want api.Errno) {
	if got != want {
		p.fail(c.String(), int(got), int(want))
	}
}

// label numbers a function; the value that goes with it, if any, is that of the same number.
func (p *pair[T]) label() int {
	p.labels++
	return p.labels
}

func (p *pair[T]) make(at, size int) {
	c, e := chans.Make[T](p.runtime, size)
	if c == nil || e != api.OK {
		p.fail("Make", c, e)
	}
	p.chans[at], p.model.chans[at] = c, &modelChan[T]{size: size}
}

// hears says that what was told is what should have been.
func (p *pair[T]) hears(what string) {
	if !slices.Equal(p.notes, p.model.notes) {
		p.fail(what+" tells", p.notes, p.model.notes)
	}
	p.notes, p.model.notes = nil, nil
}

// turn is what all functions of tasks do.
func (p *pair[T]) turn(got note[T]) {
	p.turns++
	p.notes = append(p.notes, got)
	p.hears("a turn")
	p.goOn()
}

// goOn does what is told, up to the end of the turn.
func (p *pair[T]) goOn() {
	for p.fault == "" {
		c, ok := p.next()
		if !ok || c.kind == "end" && p.model.running >= 0 {
			return
		}
		p.do(c)
		p.hears(c.String())
	}
}

func (p *pair[T]) do(c call) {
	switch c.kind {
	case "make":
		p.make(c.places[0].at, int(c.p))
	case "try":
		p.try(c)
	case "close":
		at := c.places[0].at
		p.same(c, p.chans[at].Close(), p.model.close(p.model.chans[at]))
	case "wait":
		p.wait(c)
	case "ask":
		p.compare()
	case "choice":
		if got, want := p.runtime.Choice(int(c.p)), p.model.choice(int(c.p)); got != want {
			p.fail(c.String(), got, want)
		}
	case "spawn":
		p.spawn()
	case "step":
		p.step(c)
	default:
		p.doTask(c)
	}
}

func (p *pair[T]) doTask(c call) {
	id := c.who
	if id < 0 {
		id = max(0, p.model.running)
	}
	var task *csp.Task
	if id < len(p.tasks) {
		task = p.tasks[id]
	}
	switch c.kind {
	case "select":
		p.selects(c, task, id)
	case "send or recv":
		p.single(c, task, id)
	case "wake":
		p.same(c, task.Wake(7), p.model.wake(id))
	}
}

// told is a case's then.
func (p *pair[T]) told(label int) func(v T, ok bool) {
	return func(v T, ok bool) { p.turn(note[T]{"then", label, v, ok}) }
}

func (p *pair[T]) selects(c call, task *csp.Task, id int) {
	var none T
	var cases []Case
	var should []modelCase[T]
	for _, at := range c.places {
		label := p.label()
		then := p.told(label)
		if v := p.thing(label); at.sends {
			cases = append(cases, OnSend(p.chans[at.at], v, func(ok bool) { then(none, ok) }))
			should = append(should, modelCase[T]{at.at, true, v, label})
		} else {
			cases = append(cases, OnRecv(p.chans[at.at], then))
			should = append(should, modelCase[T]{at: at.at, label: label})
		}
	}
	var otherwise func()
	label := 0
	if c.otherwise {
		label = p.label()
		otherwise = func() { p.turn(note[T]{what: "then", label: label}) }
	}
	p.same(c, Select(task, cases, otherwise), p.model.selects(id, should, label))
}

// single is a Send or a Recv: of the model it is a Select of one case.
func (p *pair[T]) single(c call, task *csp.Task, id int) {
	var none T
	at, label := c.places[0], p.label()
	then := p.told(label)
	if v := p.thing(label); at.sends {
		e := chans.Send(task, p.chans[at.at], v, func(ok bool) { then(none, ok) })
		p.same(c, e, p.model.selects(id, []modelCase[T]{{at.at, true, v, label}}, 0))
	} else {
		e := chans.Recv(task, p.chans[at.at], then)
		p.same(c, e, p.model.selects(id, []modelCase[T]{{at: at.at, label: label}}, 0))
	}
}

// try is a TrySend or a TryRecv.
func (p *pair[T]) try(c call) {
	at := c.places[0]
	ch, m := p.chans[at.at], p.model.chans[at.at]
	v := p.thing(p.label())
	var got, want struct {
		v       T
		ok, can bool
	}
	if at.sends {
		got.ok, got.can = ch.TrySend(v)
	} else {
		got.v, got.ok, got.can = ch.TryRecv()
	}
	if want.can = m.can(at.sends); want.can {
		want.v, want.ok = p.model.do(m, at.sends, v)
	}
	if got != want {
		p.fail(c.String(), got, want)
	}
}

// wait is a WaitSend or a WaitRecv of somebody who is no task, by a ticket of its own.
func (p *pair[T]) wait(c call) {
	var none T
	at, label := c.places[0], p.label()
	ch, m := p.chans[at.at], p.model.chans[at.at]
	k := chans.NewTicket(func() { p.notes = append(p.notes, note[T]{what: "fired", label: label}) })
	told := func(v T, ok bool) { p.notes = append(p.notes, note[T]{"told", label, v, ok}) }
	w := &modelWaiter[T]{&modelTicket{label: label, task: -1}, at.sends, none, label}
	var e, want api.Errno
	if at.sends {
		w.value = p.thing(label)
		e = ch.WaitSend(w.value, k, func(ok bool) { told(none, ok) })
	} else {
		e = ch.WaitRecv(k, told)
	}
	if want = api.ErrArg; !m.can(at.sends) {
		want = api.OK
		m.ever = append(m.ever, w)
	}
	p.same(c, e, want)
}

func (p *pair[T]) spawn() {
	spawned := note[T]{what: "spawned", label: p.label()}
	task, e := p.runtime.Spawn(func(*csp.Task) { p.turn(spawned) })
	if e != api.OK {
		p.fail("Spawn", e, api.OK)
	}
	p.tasks = append(p.tasks, task)
	p.model.tasks = append(p.model.tasks, &modelTask[T]{next: spawned})
	p.model.getReady(len(p.tasks) - 1)
}

func (p *pair[T]) step(c call) {
	can := p.model.canStep()
	turns := p.turns
	heard := can && p.model.begin(c.p)
	got := p.runtime.Step(c.p)
	if heard {
		p.model.end()
		turns++
	}
	if got != can || p.turns != turns {
		p.fail(fmt.Sprint(c, ": turns ", p.turns), got, fmt.Sprint(can, " ", turns))
	}
}

// compare asks all that can be asked.
func (p *pair[T]) compare() {
	for i, c := range p.chans {
		m := p.model.chans[i]
		want := look{len(m.buffer), m.size, m.closed, len(m.waiting(true)), len(m.waiting(false)), m.can(true), m.can(false)}
		if got := lookAt(c); got != want {
			p.fail(fmt.Sprint("channel ", i), got, want)
		}
	}
	if got, want := p.runtime.Ready(), p.model.line; !slices.Equal(got, want) {
		p.fail("Ready", got, want)
	}
	if got, want := p.runtime.Parked(), p.model.those(parked); !slices.Equal(got, want) {
		p.fail("Parked", got, want)
	}
}

// all does calls, one by one, and lets all who are ready have their turns behind each.
func (p *pair[T]) all(calls ...call) {
	p.next = func() (call, bool) { return call{}, false }
	for _, c := range calls {
		p.do(c)
		p.hears(c.String())
		for p.fault == "" && p.model.canStep() {
			p.do(call{kind: "step"})
		}
		p.compare()
	}
}

// drain takes out all that is in the channels, of those who wait to send too, then closes them: all are over behind it.
func (p *pair[T]) drain() {
	p.all(call{kind: "ask"})
	for i, m := range p.model.chans {
		send, recv := call{kind: "try", places: []place{{i, true}}}, call{kind: "try", places: []place{{i, false}}}
		for p.fault == "" && !m.closed && m.can(false) {
			p.all(recv)
		}
		p.all(send, call{kind: "close", places: []place{{i, true}}}, recv, recv)
		for p.fault == "" && len(m.buffer) > 0 {
			p.all(recv)
		}
		p.all(send, recv)
	}
	for id, task := range p.model.tasks {
		if p.fault == "" && task.is != over {
			p.fail("behind all closes", id, "all are over")
		}
	}
}

// numbers and texts are what goes through the channels; all are unlike, and none is nothing.
func numbers(n int) int { return n }

func texts(n int) string { return fmt.Sprint("text ", n) }

// everyRow tries all rows of so many calls, behind a beginning.
func everyRow[T comparable](t *testing.T, sizes []int, thing func(n int) T, beginning, calls []call, most int) {
	t.Helper()
	var try func(row []call, more int)
	try = func(row []call, more int) {
		p := newPair(sizes, thing, ofRow(row))
		p.goOn()
		p.drain()
		if p.fault != "" {
			t.Fatalf("sizes %v, %v: %s", sizes, row, p.fault)
		}
		if more > 0 {
			for _, c := range calls {
				try(append(row[:len(row):len(row)], c), more-1)
			}
		}
	}
	try(beginning, most)
}

// selecting are calls of Select by whoever has the turn: of one case, of two at two channels or at one, of three; with an otherwise and without.
func selecting() []call {
	of := func(otherwise bool, places ...place) call {
		return call{kind: "select", who: -1, places: places, otherwise: otherwise}
	}
	return []call{
		of(false, place{0, false}, place{1, true}),
		of(false, place{1, false}, place{0, true}),
		of(true, place{0, true}, place{1, true}),
		of(false, place{0, false}, place{0, true}, place{1, false}),
	}
}

// beginnings are what short rows stand behind: three new tasks; two that wait at both channels; one that waits to send at both, and one in its turn.
func beginnings() map[string][]call {
	spawn, end, step := call{kind: "spawn"}, call{kind: "end"}, call{kind: "step"}
	three := []call{spawn, spawn, spawn}
	recv := call{kind: "select", who: -1, places: []place{{0, false}, {1, false}}}
	send := call{kind: "select", who: -1, places: []place{{1, true}, {0, true}}}
	return map[string][]call{
		"new":  three,
		"recv": append(slices.Clone(three), step, recv, end, step, recv, end),
		"turn": append(slices.Clone(three), step, send, end, step),
	}
}

// P17.2: all short rows of tasks that select, and of what others do at the channels, behind each beginning.
func TestEveryRow(t *testing.T) {
	calls := append(selecting(), call{kind: "step"}, call{kind: "step", p: 4}, call{kind: "end"}, call{kind: "wake"}, call{kind: "close", places: []place{{0, true}}})
	for at := range 2 {
		calls = append(calls, call{kind: "try", places: []place{{at, at == 0}}})
	}
	for name, beginning := range beginnings() {
		for _, sizes := range [][]int{{0, 0}, {0, 1}, {1, 1}} {
			t.Run(fmt.Sprint(name, sizes), func(t *testing.T) {
				t.Parallel()
				everyRow(t, sizes, numbers, beginning, calls, 4)
				everyRow(t, sizes, texts, beginning, calls, 3)
			})
		}
	}
}

// P17.2, P17.3: all short rows in which tasks that select meet such as send and receive, and such as wait by tickets.
func TestEveryMixedRow(t *testing.T) {
	calls := append(selecting()[:2], call{kind: "step", p: 3}, call{kind: "end"}, call{kind: "choice", p: 2})
	for at := range 2 {
		calls = append(calls, call{kind: "send or recv", who: -1, places: []place{{at, at == 1}}}, call{kind: "wait", places: []place{{at, at == 0}}}, call{kind: "wait", places: []place{{at, at == 1}}})
	}
	for name, beginning := range beginnings() {
		for _, sizes := range [][]int{{0, 0}, {1, 0}} {
			t.Run(fmt.Sprint(name, sizes), func(t *testing.T) {
				t.Parallel()
				everyRow(t, sizes, numbers, beginning, calls, 4)
			})
		}
	}
}

// row tells numbers without a pattern, always the same ones.
func row(seed uint64) func(below int) int {
	return func(below int) int {
		seed = seed*6364136223846793005 + 1442695040888963407
		return int((bits.Reverse64(seed) ^ seed>>7) % uint64(below))
	}
}

// drawnTask is a task at random: mostly the one whose turn it is, or one that is parked, or any of the last ones, or none.
func drawnTask[T comparable](next func(int) int, m *model[T]) int {
	waits := m.those(parked)
	switch k := next(20); {
	case k < 16:
		return -1
	case k < 18 && len(waits) > 0:
		return waits[next(len(waits))]
	}
	return max(0, len(m.tasks)-next(9))
}

// weights are how often each kind of call is drawn, in parts of their sum: outside of a turn, by who has it and has not said how it goes on, and by who has said it.
func weights(m interface{ stage() int }) []weight {
	switch m.stage() {
	case 0:
		return []weight{{"step", 40}, {"try", 3}, {"wait", 2}, {"spawn", 4}, {"wake", 3}, {"choice", 1}, {"close", 2}, {"ask", 2}, {"select", 2}}
	case 1:
		return []weight{{"select", 40}, {"send or recv", 6}, {"end", 4}, {"try", 3}, {"wait", 2}, {"wake", 2}, {"choice", 4}, {"close", 1}, {"ask", 1}, {"step", 1}}
	}
	return []weight{{"end", 40}, {"select", 3}, {"try", 4}, {"wait", 2}, {"wake", 4}, {"choice", 4}, {"close", 1}, {"ask", 1}, {"step", 1}}
}

type weight struct {
	kind string
	part int
}

// stage is 0 outside of a turn, 1 in that of a task that has not said how it goes on, else 2.
func (m *model[T]) stage() int {
	switch {
	case m.running < 0:
		return 0
	case m.tasks[m.running].is == silent:
		return 1
	}
	return 2
}

func drawnKind(next func(int) int, from []weight) string {
	sum := 0
	for _, w := range from {
		sum += w.part
	}
	k := next(sum)
	for _, w := range from {
		if k -= w.part; k < 0 {
			return w.kind
		}
	}
	return "ask"
}

// drawnPlace is where a case is. At times most of them are to send, or most to receive, so that many come to wait.
func drawnPlace(next func(int) int, channels, time int) place {
	sends := next(2) == 0
	if most := time % 3; most > 0 && next(6) > 0 {
		sends = most == 1
	}
	return place{next(channels), sends}
}

// drawnPlaces are some places of cases, mostly few, seldom as many as may be, or more.
func drawnPlaces(next func(int) int, channels, time int) []place {
	count := next(5)
	if next(20) == 0 {
		count = 12 + next(6)
	}
	var places []place
	for range count {
		places = append(places, drawnPlace(next, channels, time))
	}
	return places
}

// drawnCall is a call at random. A channel that was closed is soon another one.
func drawnCall[T comparable](next func(int) int, m *model[T], time int) call {
	c := call{kind: drawnKind(next, weights(m)), p: uint64(next(10000)), places: []place{drawnPlace(next, len(m.chans), time)}}
	at := c.places[0].at
	alive := len(m.tasks) - len(m.those(over))
	switch {
	case alive < 3 || c.kind == "spawn" && alive < 20:
		return call{kind: "spawn"}
	case c.kind == "spawn", c.kind == "close" && next(4) > 0:
		return call{kind: "ask"}
	case m.chans[at].closed && next(8) == 0:
		c.kind, c.p = "make", uint64([]int{0, 0, 0, 0, 1, 1, 2, 3, 64}[next(9)])
		return c
	}
	switch c.kind {
	case "select":
		c.who, c.places, c.otherwise = drawnTask(next, m), drawnPlaces(next, len(m.chans), time), next(6) == 0
	case "choice":
		c.p = uint64(next(9))
	default:
		c.who = drawnTask(next, m)
	}
	return c
}

// drawnRow does a long row of calls at random, and asks in between or not; it tells how often there were many who waited at a channel.
func drawnRow[T comparable](t *testing.T, seed uint64, thing func(n int) T, asks bool) int {
	t.Helper()
	next, steps, many := row(seed), 0, 0
	var p *pair[T]
	p = newPair([]int{0, 0, 1, 3}, thing, func() (call, bool) {
		steps++
		c := drawnCall(next, p.model, steps/150)
		if len(p.model.chans[0].waiting(true))+len(p.model.chans[0].waiting(false)) > 5 {
			many++
		}
		if asks && p.fault == "" {
			p.compare()
		}
		if c.kind == "ask" && !asks {
			c.kind = "end"
		}
		return c, steps < 3000
	})
	p.goOn()
	p.drain()
	if p.fault != "" {
		t.Fatalf("seed %d, step %d: %s", seed, steps, p.fault)
	}
	if m := p.model; m.chosen < 60 || m.waits < 30 {
		t.Errorf("seed %d: among others %d times alone, at several %d times alone", seed, m.chosen, m.waits)
	}
	return many
}

// P17.1 to P17.3: long rows of all calls, with numbers and with texts. R4: the same ones, whether or not something is asked in between.
func TestDrawnRows(t *testing.T) {
	t.Parallel()
	many := 0
	for seed := range uint64(20) {
		for _, asks := range []bool{false, true} {
			many += drawnRow(t, seed, numbers, asks)
			many += drawnRow(t, seed+1000, texts, asks)
		}
	}
	if many < 5000 {
		t.Errorf("many waited at %d steps alone", many)
	}
}
