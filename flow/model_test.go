package flow

import (
	"fmt"
	"math/bits"
	"slices"
	"testing"

	"conduit/api"
	"conduit/chans"
	"conduit/csp"
)

// note is what a function is told that was handed in: which function it is, and the rest.
type note struct {
	what  string
	label int
	value int
	ok    bool
}

// standing is how a task stands; one that is silent is running and has not said how it goes on.
type standing uint8

const (
	silent standing = iota
	ready
	parked
	over
)

type modelBasket struct {
	things []int
	done   bool
}

// modelTask is a task by the chapter's words: what it has done last, and what it was told of that. A plain one is none of flow's.
type modelTask struct {
	is    standing
	kind  string
	did   string
	value int
	ok    bool

	left   []int
	in     *modelChan
	outs   []*modelChan
	turns  int
	label  int
	others *int
	basket *modelBasket
}

// modelWaiter is somebody who waits at a channel: a task, or with a ticket, and then the task is -1.
type modelWaiter struct {
	task   int
	sends  bool
	value  int
	label  int
	served bool
}

// modelChan is a channel: all that ever waited are kept, in the order in which they came.
type modelChan struct {
	size   int
	closed bool
	buffer []int
	ever   []*modelWaiter
}

func (c *modelChan) waiting(sends bool) []*modelWaiter {
	var those []*modelWaiter
	for _, w := range c.ever {
		if w.sends == sends && !w.served {
			those = append(those, w)
		}
	}
	return those
}

func (c *modelChan) can(sends bool) bool {
	if sends {
		return c.closed || len(c.buffer) < c.size || len(c.waiting(false)) > 0
	}
	return c.closed || len(c.buffer) > 0 || len(c.waiting(true)) > 0
}

// model is channels, tasks and baskets; running is -1 outside of a turn.
type model struct {
	chans   []*modelChan
	tasks   []*modelTask
	baskets []*modelBasket
	line    []int
	running int
	notes   []note
	refused int
}

func (m *model) getReady(id int) {
	m.tasks[id].is = ready
	m.line = append(m.line, id)
}

func (m *model) serve(w *modelWaiter, v int, ok bool) {
	w.served = true
	if w.task < 0 {
		m.notes = append(m.notes, note{"told", w.label, v, ok})
		return
	}
	m.tells(w.task, v, ok)
}

// tells lets a task go on, with what it is told.
func (m *model) tells(id int, v int, ok bool) {
	m.tasks[id].value, m.tasks[id].ok = v, ok
	m.getReady(id)
}

func (m *model) send(c *modelChan, v int) bool {
	switch receivers := c.waiting(false); {
	case c.closed:
		return false
	case len(receivers) > 0:
		m.serve(receivers[0], v, true)
	default:
		c.buffer = append(c.buffer, v)
	}
	return true
}

func (m *model) recv(c *modelChan) (int, bool) {
	senders := c.waiting(true)
	if len(senders) > 0 {
		c.buffer = append(c.buffer, senders[0].value)
	}
	if len(c.buffer) == 0 {
		return 0, false
	}
	v := c.buffer[0]
	c.buffer = c.buffer[1:]
	if len(senders) > 0 {
		m.serve(senders[0], 0, true)
	}
	return v, true
}

func (m *model) close(c *modelChan) api.Errno {
	if c.closed {
		return api.ErrClosed
	}
	c.closed = true
	for _, w := range slices.Concat(c.waiting(false), c.waiting(true)) {
		m.serve(w, 0, false)
	}
	return api.OK
}

// wait is somebody's waiting with a ticket.
func (m *model) wait(c *modelChan, sends bool, v, label int) api.Errno {
	if c.can(sends) {
		return api.ErrArg
	}
	c.ever = append(c.ever, &modelWaiter{task: -1, sends: sends, value: v, label: label})
	return api.OK
}

// sends and receives are what a task goes on by.
func (m *model) sends(id int, c *modelChan, v int) {
	m.tasks[id].did = "sent"
	if c.can(true) {
		m.tells(id, 0, m.send(c, v))
		return
	}
	m.parks(id, c, &modelWaiter{task: id, sends: true, value: v})
}

func (m *model) receives(id int) {
	task := m.tasks[id]
	task.did = "received"
	if task.in.can(false) {
		v, ok := m.recv(task.in)
		m.tells(id, v, ok)
		return
	}
	m.parks(id, task.in, &modelWaiter{task: id})
}

func (m *model) parks(id int, c *modelChan, w *modelWaiter) {
	c.ever = append(c.ever, w)
	m.tasks[id].is = parked
}

// changed is what the f of a pipe makes of a thing.
func changed(label, x int) int { return 3*x + label }

// turn is one of a task of flow.
func (m *model) turn(id int) {
	task := m.tasks[id]
	switch {
	case task.did == "sent" && !task.ok, task.did == "received" && !task.ok:
		m.ends(task)
	case task.kind == "feed" && len(task.left) == 0:
		m.close(task.outs[0])
	case task.kind == "feed":
		v := task.left[0]
		task.left = task.left[1:]
		m.sends(id, task.outs[0], v)
	case task.did != "received":
		m.receives(id)
	case task.kind == "collect":
		task.basket.things = append(task.basket.things, task.value)
		m.receives(id)
	default:
		v := task.value
		if task.kind == "pipe" {
			m.notes = append(m.notes, note{"f", task.label, v, true})
			v = changed(task.label, v)
		}
		task.turns++
		m.sends(id, task.outs[(task.turns-1)%len(task.outs)], v)
	}
}

// ends is the end of a task that was told false.
func (m *model) ends(task *modelTask) {
	if task.kind == "collect" {
		task.basket.done = true
		return
	}
	if task.kind == "merge" {
		if *task.others--; *task.others > 0 {
			return
		}
	}
	for _, c := range task.outs {
		m.close(c)
	}
}

// alive is how many tasks are not over.
func (m *model) alive() int { return len(m.tasks) - len(m.those(over)) }

// makes is the making of tasks, or none.
func (m *model) makes(tasks ...*modelTask) api.Errno {
	if m.alive()+len(tasks) > api.MaxTasks {
		m.refused++
		return api.ErrFull
	}
	for _, task := range tasks {
		m.tasks = append(m.tasks, task)
		m.getReady(len(m.tasks) - 1)
	}
	return api.OK
}

func newChans(n, size int) []*modelChan {
	var l []*modelChan
	for range n {
		l = append(l, &modelChan{size: size})
	}
	return l
}

// those are the tasks that stand so, by rising numbers.
func (m *model) those(is standing) []int {
	var ids []int
	for id, task := range m.tasks {
		if task.is == is {
			ids = append(ids, id)
		}
	}
	return ids
}

func (m *model) canStep() bool {
	return m.running < 0 && len(m.line) > 0
}

// begin is the beginning of a turn: of flow's tasks all of it. It tells whether a plain task has it.
func (m *model) begin(p uint64) bool {
	place := int(p % uint64(len(m.line)))
	id := m.line[place]
	m.line = slices.Delete(m.line, place, place+1)
	m.tasks[id].is, m.running = silent, id
	if m.tasks[id].kind == "plain" {
		return true
	}
	m.turn(id)
	m.end()
	return false
}

func (m *model) end() {
	if task := m.tasks[m.running]; task.is == silent {
		task.is = over
	}
	m.running = -1
}

// call is one thing that is done, within a turn or outside of one: at channels (those below 0 are counted from the last one on; a merge is of one or two), with a number (of things, of channels, a pick) and a size. An end ends the turn.
type call struct {
	kind string
	at   int
	too  int
	n    int
	size int
}

func (c call) String() string {
	return fmt.Sprintf("%s %d size %d at %d, %d", c.kind, c.n, c.size, c.at, c.too)
}

// pair is pipelines, and what they should be. Its plain tasks do in their turns what next tells; with nothing told they say nothing, and are over.
type pair struct {
	runtime *csp.Runtime
	chans   []*chans.Chan[int]
	baskets []*Basket[int]
	self    *csp.Task
	model   *model
	next    func() (call, bool)
	labels  int
	turns   int
	notes   []note
	fault   string
}

func newPair(next func() (call, bool)) *pair {
	return &pair{runtime: csp.New(), model: &model{running: -1}, next: next}
}

// ofRow tells the calls of a row, then asks once for what there is: behind the last one alone, so that no asking can help.
func ofRow(row []call) func() (call, bool) {
	at := 0
	return func() (call, bool) {
		at++
		switch {
		case at <= len(row):
			return row[at-1], true
		case at == len(row)+1:
			return call{kind: "ask"}, true
		}
		return call{}, false
	}
}

// fail notes the first fault. What is a text, or a call: to write out each call would be most of the work.
func (p *pair) fail(what, got, want any) {
	if p.fault == "" {
		p.fault = fmt.Sprintf("%v: %v, want %v", what, got, want)
	}
}

func (p *pair) same(what, got, want any) {
	if got != want {
		p.fail(what, got, want)
	}
}

// label numbers a function, a thing, or a list of things.
func (p *pair) label() int {
	p.labels++
	return p.labels
}

// hears says that what was told is what should have been.
func (p *pair) hears(what any) {
	if !slices.Equal(p.notes, p.model.notes) {
		p.fail(fmt.Sprint(what, " tells"), p.notes, p.model.notes)
	}
	p.notes, p.model.notes = nil, nil
}

// goOn does what is told, up to the end of the turn.
func (p *pair) goOn() {
	for p.fault == "" {
		c, ok := p.next()
		if !ok || c.kind == "end" && p.model.running >= 0 {
			return
		}
		p.do(c)
		p.hears(c)
	}
}

// place is where the channel stands that a call names; -1 if there is none.
func (p *pair) place(at int) int {
	if at < 0 {
		at += len(p.chans)
	}
	if at >= len(p.chans) {
		return -1
	}
	return max(at, -1)
}

func (p *pair) do(c call) {
	switch c.kind {
	case "end":
	case "ask":
		p.compare()
	case "spawn":
		p.spawn()
	case "yield":
		p.yield()
	case "step":
		p.step(c)
	case "feed":
		p.feed(c)
	default:
		if at := p.place(c.at); at >= 0 {
			p.doAt(c, at)
		}
	}
}

func (p *pair) doAt(c call, at int) {
	ch, m := p.chans[at], p.model.chans[at]
	switch c.kind {
	case "pipe":
		p.pipe(c, ch, m)
	case "split":
		p.split(c, ch, m)
	case "collect":
		p.collect(c, ch, m)
	case "merge":
		p.merge(c, at)
	case "close":
		p.same(c, ch.Close(), p.model.close(m))
	default:
		p.doChan(c, ch, m)
	}
}

func (p *pair) doChan(c call, ch *chans.Chan[int], m *modelChan) {
	label := p.label()
	k := chans.NewTicket(func() {})
	switch c.kind {
	case "wait recv":
		e := ch.WaitRecv(k, func(v int, ok bool) { p.notes = append(p.notes, note{"told", label, v, ok}) })
		p.same(c, e, p.model.wait(m, false, 0, label))
	case "wait send":
		e := ch.WaitSend(label, k, func(ok bool) { p.notes = append(p.notes, note{"told", label, 0, ok}) })
		p.same(c, e, p.model.wait(m, true, label, label))
	case "try recv":
		var want note
		v, ok, can := ch.TryRecv()
		wantCan := m.can(false)
		if wantCan {
			want.value, want.ok = p.model.recv(m)
		}
		p.same(c, note{value: v, ok: ok}, want)
		p.same(c, can, wantCan)
	case "try send":
		ok, can := ch.TrySend(label)
		wantCan := m.can(true)
		wantOk := wantCan && p.model.send(m, label)
		p.same(c, ok, wantOk)
		p.same(c, can, wantCan)
	}
}

// made says what the making of channels and tasks must be answered.
func (p *pair) made(c call, got []*chans.Chan[int], e api.Errno, outs []*modelChan, want api.Errno) {
	p.same(c, e, want)
	if want != api.OK {
		outs = nil
	}
	if len(got) != len(outs) {
		p.fail(c, len(got), len(outs))
		return
	}
	p.chans, p.model.chans = append(p.chans, got...), append(p.model.chans, outs...)
}

// one is a list of a channel, if it is any.
func one(c *chans.Chan[int]) []*chans.Chan[int] {
	if c == nil {
		return nil
	}
	return []*chans.Chan[int]{c}
}

func (p *pair) feed(c call) {
	things := numbers(1000*p.label(), c.n)
	outs := newChans(1, c.size)
	got, e := Feed(p.runtime, things, c.size)
	p.made(c, one(got), e, outs, p.model.makes(&modelTask{kind: "feed", left: slices.Clone(things), outs: outs}))
	clear(things)
}

func (p *pair) pipe(c call, ch *chans.Chan[int], m *modelChan) {
	label := p.label()
	outs := newChans(1, c.size)
	got, e := Pipe(p.runtime, ch, func(x int) int {
		p.notes = append(p.notes, note{"f", label, x, true})
		return changed(label, x)
	}, c.size)
	p.made(c, one(got), e, outs, p.model.makes(&modelTask{kind: "pipe", in: m, outs: outs, label: label}))
}

// merge is one of the channel at a place alone, or of that one and another one. A task that has said how it goes on does not ask for just as many as there is room for.
func (p *pair) merge(c call, at int) {
	places := []int{at}
	if too := p.place(c.too); too >= 0 {
		places = append(places, too)
	}
	if p.model.running >= 0 && p.model.tasks[p.model.running].is != silent && p.model.alive()+len(places) == api.MaxTasks {
		return
	}
	outs, others := newChans(1, c.size), len(places)
	var ins []*chans.Chan[int]
	var tasks []*modelTask
	for _, place := range places {
		ins = append(ins, p.chans[place])
		tasks = append(tasks, &modelTask{kind: "merge", in: p.model.chans[place], outs: outs, others: &others})
	}
	got, e := Merge(p.runtime, ins, c.size)
	p.made(c, one(got), e, outs, p.model.makes(tasks...))
	clear(ins)
}

func (p *pair) split(c call, ch *chans.Chan[int], m *modelChan) {
	outs := newChans(c.n, c.size)
	got, e := Split(p.runtime, ch, c.n, c.size)
	p.made(c, got, e, outs, p.model.makes(&modelTask{kind: "split", in: m, outs: outs}))
	clear(got)
}

func (p *pair) collect(c call, ch *chans.Chan[int], m *modelChan) {
	basket := &modelBasket{}
	got, e := Collect(p.runtime, ch)
	want := p.model.makes(&modelTask{kind: "collect", in: m, basket: basket})
	p.same(c, e, want)
	p.same(c, got != nil, want == api.OK)
	if got != nil {
		p.baskets, p.model.baskets = append(p.baskets, got), append(p.model.baskets, basket)
	}
}

// plain is what a plain task does in its turns.
func (p *pair) plain(self *csp.Task) func() {
	return func() {
		p.turns++
		p.self = self
		p.goOn()
	}
}

func (p *pair) spawn() {
	_, e := p.runtime.Spawn(func(self *csp.Task) { p.plain(self)() })
	p.same("Spawn", e, p.model.makes(&modelTask{kind: "plain"}))
}

// yield is one of the task whose turn it is, if it is anybody's.
func (p *pair) yield() {
	if p.model.running < 0 {
		return
	}
	want := api.ErrBusy
	if p.model.tasks[p.model.running].is == silent {
		want = api.OK
		p.model.getReady(p.model.running)
	}
	p.same("Yield", p.self.Yield(p.plain(p.self)), want)
}

func (p *pair) step(c call) {
	can := p.model.canStep()
	turns := p.turns
	plain := can && p.model.begin(uint64(c.n))
	got := p.runtime.Step(uint64(c.n))
	if plain {
		p.model.end()
		turns++
	}
	if got != can || p.turns != turns {
		p.fail(fmt.Sprint(c, ": turns ", p.turns), got, fmt.Sprint(can, " ", turns))
	}
}

// compare asks all that can be asked.
func (p *pair) compare() {
	for i, c := range p.chans {
		m := p.model.chans[i]
		want := look{len(m.buffer), m.size, m.closed, len(m.waiting(true)), len(m.waiting(false)), m.can(true), m.can(false)}
		p.same(at("channel", i), lookAt(c), want)
	}
	for i, b := range p.baskets {
		m := p.model.baskets[i]
		if got := b.List(); !slices.Equal(got, m.things) {
			p.fail(at("List of basket", i), got, m.things)
		}
		p.same(at("Done of basket", i), b.Done(), m.done)
	}
	if got, want := p.runtime.Ready(), p.model.line; !slices.Equal(got, want) {
		p.fail("Ready", got, want)
	}
	if got, want := p.runtime.Parked(), p.model.those(parked); !slices.Equal(got, want) {
		p.fail("Parked", got, want)
	}
}

// all does a call, and lets all who are ready have their turns behind it, and asks.
func (p *pair) all(c call) {
	p.next = func() (call, bool) { return call{}, false }
	p.do(c)
	p.hears(c)
	for p.fault == "" && p.model.canStep() {
		p.do(call{kind: "step"})
		p.hears("a turn")
	}
	p.compare()
}

// drain lets all go on, receives what is left, and closes all channels: all tasks are over behind it.
func (p *pair) drain() {
	p.all(call{kind: "ask"})
	for i, m := range p.model.chans {
		for p.fault == "" && m.can(false) && (len(m.buffer) > 0 || len(m.waiting(true)) > 0) {
			p.all(call{kind: "try recv", at: i})
		}
	}
	for i := range p.model.chans {
		if p.fault == "" {
			p.all(call{kind: "close", at: i})
		}
	}
	for id, task := range p.model.tasks {
		if p.fault == "" && task.is != over {
			p.fail("behind all that there is", id, "all are over")
		}
	}
}

// everyRow tries all rows of so many calls, behind a beginning.
func everyRow(t *testing.T, beginning, calls []call, most int) {
	t.Helper()
	var try func(row []call, more int)
	try = func(row []call, more int) {
		p := newPair(ofRow(row))
		p.goOn()
		p.drain()
		if p.fault != "" {
			t.Fatalf("%v: %s", row, p.fault)
		}
		if more > 0 {
			for _, c := range calls {
				try(append(row[:len(row):len(row)], c), more-1)
			}
		}
	}
	try(beginning, most)
}

// none is no second channel of a merge.
const none = 1 << 20

func feedCall(n, size int) call { return call{kind: "feed", n: n, size: size} }

func pipeCall(at, size int) call { return call{kind: "pipe", at: at, size: size} }

func mergeCall(at, too, size int) call { return call{kind: "merge", at: at, too: too, size: size} }

func splitCall(at, n, size int) call { return call{kind: "split", at: at, n: n, size: size} }

func stepCall(p int) call { return call{kind: "step", n: p} }

func at(kind string, at int) call { return call{kind: kind, at: at} }

// beginnings are what short rows stand behind.
func beginnings() map[string][]call {
	step := stepCall(0)
	return map[string][]call{
		"feed":    {feedCall(2, 0)},
		"pipe":    {feedCall(3, 1), pipeCall(0, 0), stepCall(0), stepCall(0)},
		"merge":   {feedCall(2, 0), feedCall(1, 1), mergeCall(0, 1, 1), step, step},
		"split":   {feedCall(5, 1), splitCall(0, 3, 1), step, step, step, step},
		"collect": {feedCall(3, 2), at("collect", 0), step, step, step},
		"line":    {feedCall(4, 0), splitCall(0, 2, 0), pipeCall(1, 0), mergeCall(-1, 2, 1), at("collect", -1), step, step, step, step, step},
		"turn":    {feedCall(2, 1), pipeCall(0, 1), {kind: "spawn"}, stepCall(2)},
	}
}

// P19.1 to P19.5: all short rows of turns, and of what others do at the channels, behind each beginning.
func TestEveryRow(t *testing.T) {
	calls := []call{stepCall(0), stepCall(1), stepCall(2), at("close", 0), at("close", 1), at("close", -1), at("try recv", -1), at("try recv", 1), at("try send", 0), at("wait recv", -1), at("wait send", 0)}
	for name, beginning := range beginnings() {
		t.Run(name, func(t *testing.T) {
			t.Parallel()
			everyRow(t, beginning, calls, 4)
		})
	}
}

// P19.1 to P19.5: all short rows in which lines are made, too, within turns and outside of them.
func TestEveryRowOfLines(t *testing.T) {
	calls := []call{feedCall(1, 0), pipeCall(-1, 0), mergeCall(-1, 0, 1), mergeCall(-1, -1, 0), splitCall(0, 2, 0), at("collect", -1), stepCall(0), stepCall(3), {kind: "end"}, at("close", -1)}
	for name, beginning := range beginnings() {
		t.Run(name, func(t *testing.T) {
			t.Parallel()
			everyRow(t, beginning, calls, 4)
		})
	}
}

// row tells numbers without a pattern, always the same ones.
func row(seed uint64) func(below int) int {
	return func(below int) int {
		seed = seed*6364136223846793005 + 1442695040888963407
		return int((bits.Reverse64(seed) ^ seed>>7) % uint64(below))
	}
}

type weight struct {
	kind string
	part int
}

// weights are how often each kind of call is drawn, in parts of their sum: outside of a turn, and within one.
func weights(m *model) []weight {
	if m.running < 0 {
		return []weight{{"step", 150}, {"feed", 5}, {"pipe", 6}, {"merge", 6}, {"split", 4}, {"collect", 4}, {"spawn", 4}, {"close", 2}, {"try recv", 4}, {"try send", 2}, {"wait recv", 2}, {"wait send", 1}, {"ask", 2}}
	}
	return []weight{{"end", 20}, {"feed", 4}, {"pipe", 3}, {"merge", 3}, {"split", 2}, {"collect", 2}, {"yield", 8}, {"step", 1}, {"close", 1}, {"try recv", 2}, {"try send", 1}, {"spawn", 1}, {"ask", 1}}
}

func drawnKind(next func(int) int, from []weight) string {
	sum := 0
	for _, w := range from {
		sum += w.part
	}
	k := next(sum)
	for _, w := range from {
		if k -= w.part; k < 0 {
			return w.kind
		}
	}
	return "ask"
}

// drawnCall is a call at random, mostly about the last channels.
func drawnCall(next func(int) int, m *model, most int) call {
	c := call{kind: drawnKind(next, weights(m)), at: -1 - next(12), too: -1 - next(12), size: []int{0, 0, 1, 2, 64}[next(5)]}
	switch c.kind {
	case "feed":
		c.n = []int{0, 1, 2, 5, 30}[next(5)]
	case "split":
		c.n = []int{1, 2, 2, 3, 16}[next(5)]
	case "merge":
		if next(4) == 0 {
			c.too = none
		}
	case "step":
		c.n = next(10000)
	}
	if m.alive() >= most && slices.Contains([]string{"feed", "pipe", "merge", "split", "collect", "spawn"}, c.kind) {
		return call{kind: "close", at: next(len(m.chans) + 1)}
	}
	return c
}

// drawnRow does a long row of calls at random, behind so many turns in which tasks are spawned instead of having turns, and asks in between or not; it tells how often there was no room.
func drawnRow(t *testing.T, seed uint64, crowd, most int, asks bool) int {
	t.Helper()
	next, steps := row(seed), 0
	var p *pair
	p = newPair(func() (call, bool) {
		steps++
		c := drawnCall(next, p.model, most)
		if asks && p.fault == "" {
			p.compare()
		}
		switch {
		case c.kind == "ask" && !asks:
			c.kind = "end"
		case c.kind == "step" && steps < crowd:
			c.kind = "spawn"
		}
		return c, steps < crowd+1500
	})
	p.goOn()
	p.drain()
	if p.fault != "" {
		t.Fatalf("seed %d, step %d: %s", seed, steps, p.fault)
	}
	return p.model.refused
}

// P19.1 to P19.5: long rows of all calls. R4: the same ones, whether or not something is asked in between.
func TestDrawnRows(t *testing.T) {
	t.Parallel()
	for seed := range uint64(24) {
		for _, asks := range []bool{false, true} {
			drawnRow(t, seed, 0, 12+int(seed), asks)
		}
	}
}

// P19.1 to P19.5: the same in a runtime that is often full.
func TestDrawnRowsOfMany(t *testing.T) {
	t.Parallel()
	for seed := range uint64(6) {
		if refused := drawnRow(t, seed, 1500, 1<<20, false); refused < 100 {
			t.Errorf("seed %d: refused %d times alone", seed, refused)
		}
	}
}
