package csp

import (
	"fmt"
	"math"
	"math/big"
	"math/bits"
	"slices"
	"testing"

	"conduit/api"
)

// most is the chapter's limit, in its own number.
const most = 256

// standing is how a task stands.
type standing uint8

// silent is a task that is running and has said nothing.
const (
	silent standing = iota
	ready
	parked
	over
)

// told is what a function is told: which one it is, whether it was woken, and why.
type told struct {
	label int
	woken bool
	why   int
}

// modelTask is a task by the chapter's words; since is the count of all that ever got ready ahead of it, which tells their order.
type modelTask struct {
	is    standing
	since int
	next  told
}

// model is a runtime by the chapter's words: all tasks that ever were, by their numbers; running is -1 outside of a turn.
type model struct {
	tasks   []*modelTask
	ever    int
	running int
	left    *big.Int
}

func newModel() *model {
	return &model{running: -1}
}

func (m *model) those(is standing) []int {
	var ids []int
	for id, t := range m.tasks {
		if t.is == is {
			ids = append(ids, id)
		}
	}
	return ids
}

func (m *model) line() []int {
	line := m.those(ready)
	slices.SortFunc(line, func(a, b int) int { return m.tasks[a].since - m.tasks[b].since })
	return line
}

func (m *model) getReady(t *modelTask, next told) {
	t.is, t.since, t.next = ready, m.ever, next
	m.ever++
}

func (m *model) spawn(label int) api.Errno {
	if len(m.tasks)-len(m.those(over)) == most {
		return api.ErrFull
	}
	t := &modelTask{}
	m.tasks = append(m.tasks, t)
	m.getReady(t, told{label: label})
	return api.OK
}

// says is what a task is answered that says how it goes on.
func (m *model) says(id int) api.Errno {
	switch {
	case id >= len(m.tasks):
		return api.ErrNil
	case id != m.running:
		return api.ErrOver
	case m.tasks[id].is != silent:
		return api.ErrBusy
	}
	return api.OK
}

func (m *model) yield(id, label int) api.Errno {
	e := m.says(id)
	if e == api.OK {
		m.getReady(m.tasks[id], told{label: label})
	}
	return e
}

func (m *model) park(id, label int) api.Errno {
	e := m.says(id)
	if e == api.OK {
		m.tasks[id].is, m.tasks[id].next = parked, told{label: label}
	}
	return e
}

func (m *model) wake(id, why int) api.Errno {
	switch {
	case id >= len(m.tasks):
		return api.ErrNil
	case m.tasks[id].is != parked:
		return api.ErrOver
	}
	m.getReady(m.tasks[id], told{m.tasks[id].next.label, true, why})
	return api.OK
}

// divide tells p modulo n, and makes p what is left. It reckons in numbers of any size, so that none is too great for it.
func divide(p *big.Int, n int) int {
	rest := new(big.Int)
	p.DivMod(p, big.NewInt(int64(n)), rest)
	return int(rest.Int64())
}

func (m *model) choice(n int) int {
	if m.running < 0 || n <= 0 {
		return 0
	}
	return divide(m.left, n)
}

// canStep tells whether a Step has somebody to give a turn to.
func (m *model) canStep() bool {
	return m.running < 0 && len(m.those(ready)) > 0
}

// begin is the beginning of a turn: what its function must be told.
func (m *model) begin(p uint64) told {
	line := m.line()
	m.left = new(big.Int).SetUint64(p)
	m.running = line[divide(m.left, len(line))]
	t := m.tasks[m.running]
	t.is = silent
	return t.next
}

func (m *model) end() {
	if t := m.tasks[m.running]; t.is == silent {
		t.is = over
	}
	m.running = -1
}

// call is one thing that is done, within a turn or outside of one. An end ends the turn.
type call struct {
	kind  string
	id, n int
	p     uint64
	picks []uint64
}

func (c call) String() string {
	switch c.kind {
	case "yield", "park":
		return fmt.Sprint(c.kind, " ", c.id)
	case "wake":
		return fmt.Sprint("wake ", c.id, " of ", c.n)
	case "step":
		return fmt.Sprint("step ", c.p)
	case "run":
		return fmt.Sprint("run ", c.picks, " ", c.n)
	case "choice":
		return fmt.Sprint("choice ", c.n)
	}
	return c.kind
}

// pair is a runtime and what it should be. Its tasks do in their turns what next tells; with nothing told they say nothing, and are over.
type pair struct {
	runtime *Runtime
	tasks   []*Task
	model   *model
	next    func() (call, bool)
	labels  int
	// picks are those of the Steps that are on their way, turns how many of them were.
	picks []uint64
	turns int
	fault string
}

func newPair(next func() (call, bool)) *pair {
	return &pair{runtime: New(), model: newModel(), next: next}
}

// ofRow tells the calls of a row, then asks once for what there is: behind the last one alone, so that no asking can help.
func ofRow(row []call) func() (call, bool) {
	at := 0
	return func() (call, bool) {
		at++
		switch {
		case at <= len(row):
			return row[at-1], true
		case at == len(row)+1:
			return call{kind: "ask"}, true
		}
		return call{}, false
	}
}

// fail notes the first fault.
func (p *pair) fail(what string, got, want any) {
	if p.fault == "" {
		p.fault = fmt.Sprintf("%s: %v, want %v", what, got, want)
	}
}

// label names a new function.
func (p *pair) label() int {
	p.labels++
	return p.labels
}

// task is nil for a number that no task has.
func (p *pair) task(id int) *Task {
	if id >= len(p.tasks) {
		return nil
	}
	return p.tasks[id]
}

// turn is what every function does: it was called by a Step, is the right one, and does what is told.
func (p *pair) turn(got told) {
	if !p.model.canStep() {
		p.fail("a turn that may not be", got, "none")
		return
	}
	pick := uint64(0)
	if len(p.picks) > 0 {
		pick = p.picks[p.turns%len(p.picks)]
	}
	p.turns++
	if want := p.model.begin(pick); got != want {
		p.fail("a turn's function", got, want)
	}
	p.goOn()
	p.model.end()
}

// goOn does what is told, up to the end of the turn.
func (p *pair) goOn() {
	for p.fault == "" {
		c, ok := p.next()
		if !ok || c.kind == "end" && p.model.running >= 0 {
			return
		}
		p.do(c)
	}
}

// steps does Steps, by step, with these picks, and tells how many turns there were.
func (p *pair) steps(picks []uint64, step func()) int {
	wasPicks, wasTurns := p.picks, p.turns
	defer func() { p.picks, p.turns = wasPicks, wasTurns }()
	p.picks, p.turns = picks, 0
	step()
	return p.turns
}

func (p *pair) do(c call) {
	switch c.kind {
	case "spawn":
		p.spawn()
	case "yield":
		label := p.label()
		p.same(c, p.task(c.id).Yield(func() { p.turn(told{label: label}) }), p.model.yield(c.id, label))
	case "park":
		label := p.label()
		p.same(c, p.task(c.id).Park(func(why int) { p.turn(told{label, true, why}) }), p.model.park(c.id, label))
	case "wake":
		p.same(c, p.task(c.id).Wake(c.n), p.model.wake(c.id, c.n))
	case "step":
		p.step(c)
	case "run":
		p.run(c)
	case "choice":
		if got, want := p.runtime.Choice(c.n), p.model.choice(c.n); got != want {
			p.fail(c.String(), got, want)
		}
	case "ask":
		p.compare()
	}
}

func (p *pair) same(c call, got, want api.Errno) {
	if got != want {
		p.fail(c.String(), int(got), int(want))
	}
}

func (p *pair) spawn() {
	label := p.label()
	var self *Task
	task, e := p.runtime.Spawn(func(t *Task) {
		if t != self {
			p.fail("the task that a function is handed", t, self)
		}
		p.turn(told{label: label})
	})
	self = task
	p.same(call{kind: "spawn"}, e, p.model.spawn(label))
	if (task != nil) != (e == api.OK) {
		p.fail("spawn", task, e)
	}
	if e == api.OK {
		p.tasks = append(p.tasks, task)
	}
}

func (p *pair) step(c call) {
	want := p.model.canStep()
	var got bool
	turns := p.steps([]uint64{c.p}, func() { got = p.runtime.Step(c.p) })
	if got != want || (turns == 1) != want || turns > 1 {
		p.fail(fmt.Sprintf("%s, %d turns", c, turns), got, want)
	}
}

func (p *pair) run(c call) {
	can := p.model.running < 0
	var got int
	turns := p.steps(c.picks, func() { got = p.runtime.Run(c.picks, c.n) })
	switch {
	case got != turns, got > max(c.n, 0), !can && got > 0:
		p.fail(c.String(), got, turns)
	case can && got < c.n && p.model.canStep():
		p.fail(c.String(), got, "more")
	}
}

// compare asks all that can be asked.
func (p *pair) compare() {
	if got, want := p.runtime.Ready(), p.model.line(); !slices.Equal(got, want) {
		p.fail("Ready", got, want)
	}
	if got, want := p.runtime.Parked(), p.model.those(parked); !slices.Equal(got, want) {
		p.fail("Parked", got, want)
	}
	if got, want := p.runtime.Running(), p.model.running >= 0; got != want || !p.runtime.Made() {
		p.fail("Running", got, want)
	}
	for id, task := range p.tasks {
		gone := p.model.tasks[id].is == over
		if task.Over() != gone || task.Id() != id || task.Runtime() != p.runtime {
			p.fail(fmt.Sprint("task ", id), task.Over(), gone)
		}
		if gone && (task.next != nil || task.woken != nil) {
			p.fail(fmt.Sprint("task ", id, " is over"), "a function is kept", "none")
		}
	}
	if got, want := len(p.runtime.tasks), len(p.tasks)-len(p.model.those(over)); got != want {
		p.fail("tasks that are kept", got, want)
	}
}

// drain lets all that are ready end, then wakes all that are parked, and lets these end.
func (p *pair) drain() {
	for _, c := range []call{{kind: "run", n: math.MaxInt}, {kind: "ask"}} {
		p.do(c)
	}
	for id := range p.tasks {
		p.do(call{kind: "wake", id: id, n: 7 - id})
	}
	for _, c := range []call{{kind: "ask"}, {kind: "run", n: math.MaxInt, picks: []uint64{3, 8, 5}}, {kind: "ask"}} {
		p.do(c)
	}
	if gone := len(p.model.those(over)); gone != len(p.tasks) {
		p.fail("over at last", gone, len(p.tasks))
	}
}

// shortCalls are those of which all short rows are tried.
func shortCalls() []call {
	calls := []call{{kind: "spawn"}, {kind: "end"}, {kind: "step"}, {kind: "step", p: 13}, {kind: "choice", n: 2}, {kind: "run", n: 2, picks: []uint64{1, 6}}}
	for id := range 2 {
		calls = append(calls, call{kind: "yield", id: id}, call{kind: "park", id: id}, call{kind: "wake", id: id, n: -1})
	}
	return calls
}

// beginnings are what short rows stand behind: nothing; two tasks, within a turn of the first or of the second; one parked and one ready; three ready.
func beginnings() [][]call {
	spawn, end, step, park := call{kind: "spawn"}, call{kind: "end"}, call{kind: "step"}, call{kind: "park"}
	return [][]call{nil, {spawn, spawn, step}, {spawn, spawn, {kind: "step", p: 29}}, {spawn, spawn, step, park, end}, {spawn, spawn, spawn}}
}

// P15.1 to P15.7: all rows of up to five calls, behind each beginning; then all tasks are brought to their ends.
func TestEveryShortRow(t *testing.T) {
	calls := shortCalls()
	for i, beginning := range beginnings() {
		t.Run(fmt.Sprint(i), func(t *testing.T) {
			t.Parallel()
			var try func(row []call, more int)
			try = func(row []call, more int) {
				p := newPair(ofRow(row))
				p.goOn()
				p.drain()
				if p.fault != "" {
					t.Fatalf("%v: %s", row, p.fault)
				}
				if more > 0 {
					for _, c := range calls {
						try(append(row[:len(row):len(row)], c), more-1)
					}
				}
			}
			try(beginning, 5)
		})
	}
}

// row tells numbers without a pattern, always the same ones.
func row(seed uint64) func(below int) int {
	return func(below int) int {
		seed = seed*6364136223846793005 + 1442695040888963407
		return int((bits.Reverse64(seed) ^ seed>>7) % uint64(below))
	}
}

// drawnPick is a pick at random: near how many are ready, near the ends, or anywhere.
func drawnPick(next func(int) int, count int) uint64 {
	switch next(5) {
	case 0:
		return 0
	case 1:
		return uint64(next(count + 3))
	case 2:
		return uint64(count) * uint64(next(5))
	case 3:
		return math.MaxUint64 - uint64(next(count+3))
	}
	return uint64(next(math.MaxInt32))<<33 + uint64(next(math.MaxInt32))
}

func drawnPicks(next func(int) int, count int) []uint64 {
	var picks []uint64
	for range next(5) {
		picks = append(picks, drawnPick(next, count))
	}
	return picks
}

// drawnTask is a task at random: mostly the one whose turn it is, or one that is parked, or any of the last ones, or none.
func drawnTask(next func(int) int, m *model) int {
	waits := m.those(parked)
	switch k := next(10); {
	case k < 5 && m.running >= 0:
		return m.running
	case k < 8 && len(waits) > 0:
		return waits[next(len(waits))]
	}
	return max(0, len(m.tasks)+1-next(2*most))
}

// drawnCall is a call at random. While the tasks grow many are made, and few end.
func drawnCall(next func(int) int, m *model, grows bool) call {
	k := next(100)
	within := m.running >= 0
	switch {
	case grows && k < 50, k < 3:
		return call{kind: "spawn"}
	case k < 58 && within && !grows, k < 53 && within:
		return call{kind: "end"}
	case k < 63:
		return call{kind: "step", p: drawnPick(next, len(m.line()))}
	case k < 66:
		return call{kind: "run", n: next(6) - 1, picks: drawnPicks(next, len(m.line()))}
	case k < 70:
		return call{kind: "choice", n: []int{-1, 0, 1, 2, 3, 7, 256, math.MaxInt32, math.MaxInt, math.MinInt}[next(10)]}
	case k < 75:
		return call{kind: "ask"}
	}
	return call{kind: []string{"yield", "park", "wake"}[next(3)], id: drawnTask(next, m), n: []int{0, 1, -1, 7, math.MaxInt, math.MinInt}[next(6)]}
}

// P15.1 to P15.7: long rows, in which the tasks grow, past their limit too, get fewer and grow again.
func TestDrawnRows(t *testing.T) {
	t.Parallel()
	full := 0
	for seed := range uint64(24) {
		next, steps := row(seed), 0
		var p *pair
		p = newPair(func() (call, bool) {
			steps++
			if len(p.tasks)-len(p.model.those(over)) == most {
				full++
			}
			return drawnCall(next, p.model, steps/800%2 == 0), steps < 4000
		})
		p.goOn()
		p.drain()
		if p.fault != "" {
			t.Fatalf("seed %d, step %d: %s", seed, steps, p.fault)
		}
		if len(p.tasks) < 2*most {
			t.Errorf("seed %d: %d tasks alone", seed, len(p.tasks))
		}
	}
	if full < 100 {
		t.Errorf("there was no room at %d steps alone", full)
	}
}

// R4: a runtime with the same past answers the same, whether or not something was asked in between; asking changes nothing.
func TestAskingChangesNothing(t *testing.T) {
	t.Parallel()
	for seed := range uint64(40) {
		for _, asking := range []bool{false, true} {
			next, steps, asked := row(seed), 0, false
			var p *pair
			p = newPair(func() (call, bool) {
				if asking && !asked {
					asked = true
					return call{kind: "ask"}, true
				}
				steps++
				asked = false
				c := drawnCall(next, p.model, steps/200%2 == 0)
				if c.kind == "ask" {
					c.kind = "end"
				}
				return c, steps < 800
			})
			p.goOn()
			p.drain()
			if p.fault != "" {
				t.Fatalf("seed %d, asking %v, step %d: %s", seed, asking, steps, p.fault)
			}
		}
	}
}
