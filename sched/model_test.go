package sched

import (
	"fmt"
	"math"
	"math/big"
	"math/bits"
	"slices"
	"testing"

	"conduit/api"
)

// most is the chapter's limit, in its own number.
const most = 256

// model is a sched by the chapter's words: for each task that is ready the count of those that ever got ready ahead of it, which tells their order.
type model struct {
	since map[int]int
	ever  int
}

func newModel() *model {
	return &model{since: map[int]int{}}
}

func (m *model) list() []int {
	var list []int
	for id := range m.since {
		list = append(list, id)
	}
	slices.SortFunc(list, func(a, b int) int { return m.since[a] - m.since[b] })
	return list
}

func (m *model) ready(id int) api.Errno {
	_, is := m.since[id]
	switch {
	case id < 0:
		return api.ErrArg
	case is:
		return api.ErrBusy
	case len(m.since) == most:
		return api.ErrFull
	}
	m.since[id] = m.ever
	m.ever++
	return api.OK
}

// pick reckons in numbers of any size, so that none is too great for it.
func (m *model) pick(p uint64) (int, uint64, bool) {
	list := m.list()
	if len(list) == 0 {
		return 0, 0, false
	}
	left, place := new(big.Int).DivMod(new(big.Int).SetUint64(p), big.NewInt(int64(len(list))), new(big.Int))
	id := list[place.Int64()]
	delete(m.since, id)
	return id, left.Uint64(), true
}

func (m *model) gone(id int) bool {
	_, is := m.since[id]
	delete(m.since, id)
	return is
}

// row tells numbers without a pattern, always the same ones.
func row(seed uint64) func(below int) int {
	return func(below int) int {
		seed = seed*6364136223846793005 + 1442695040888963407
		return int((bits.Reverse64(seed) ^ seed>>7) % uint64(below))
	}
}

// call is one thing that is done to a sched: a Ready or a Gone of an id, or a Pick of p.
type call struct {
	kind string
	id   int
	p    uint64
}

func (c call) String() string {
	if c.kind == "pick" {
		return fmt.Sprint("pick ", c.p)
	}
	return fmt.Sprint(c.kind, " ", c.id)
}

// pair is a sched and what it should be.
type pair struct {
	sched *Sched
	model *model
}

func newPair() *pair {
	return &pair{New(), newModel()}
}

// do does a call to both, and says what they answer unlike each other.
func (p *pair) do(c call) string {
	var got, want string
	switch c.kind {
	case "ready":
		got, want = fmt.Sprint(int(p.sched.Ready(c.id))), fmt.Sprint(int(p.model.ready(c.id)))
	case "pick":
		got, want = fmt.Sprint(p.sched.Pick(c.p)), fmt.Sprint(p.model.pick(c.p))
	case "gone":
		got, want = fmt.Sprint(p.sched.Gone(c.id)), fmt.Sprint(p.model.gone(c.id))
	}
	if got != want {
		return fmt.Sprintf("%s, want %s", got, want)
	}
	return ""
}

// unlike says how both differ in what can be asked without changing them.
func (p *pair) unlike() string {
	want := p.model.list()
	if got := p.sched.List(); !slices.Equal(got, want) {
		return fmt.Sprintf("the list is %v, want %v", got, want)
	}
	if got := p.sched.Len(); got != len(want) {
		return fmt.Sprintf("Len is %d, want %d", got, len(want))
	}
	return ""
}

// drain picks by 0 all that are ready, and says how both differ meanwhile.
func (p *pair) drain() string {
	for range len(p.model.since) + 1 {
		if fault := p.do(call{kind: "pick"}); fault != "" {
			return "draining: " + fault
		}
	}
	return p.unlike()
}

// shortCalls are those of which all short rows are tried.
func shortCalls() []call {
	calls := []call{{kind: "ready", id: -1}}
	for id := range 4 {
		calls = append(calls, call{kind: "ready", id: id})
	}
	for id := -1; id < 3; id++ {
		calls = append(calls, call{kind: "gone", id: id})
	}
	for _, p := range []uint64{0, 1, 2, 5, math.MaxUint64} {
		calls = append(calls, call{kind: "pick", p: p})
	}
	return calls
}

// P14.1 to P14.4: all rows of up to five calls. What is ready is asked behind the last one alone, so that no asking can help; then all are picked.
func TestEveryShortRow(t *testing.T) {
	t.Parallel()
	calls := shortCalls()
	var try func(row []call)
	try = func(row []call) {
		p := newPair()
		for _, c := range row {
			if fault := p.do(c); fault != "" {
				t.Fatalf("%v: %s", row, fault)
			}
		}
		for _, fault := range []string{p.unlike(), p.drain()} {
			if fault != "" {
				t.Fatalf("%v: %s", row, fault)
			}
		}
		if len(row) < 5 {
			for _, c := range calls {
				try(append(row[:len(row):len(row)], c))
			}
		}
	}
	try(nil)
}

// drawnId is an id at random: one that is ready, or any of so many, or one at an edge.
func drawnId(next func(int) int, ready []int, ids int) int {
	switch k := next(20); {
	case k == 0:
		return []int{math.MinInt, -1, 0, math.MaxInt - 1, math.MaxInt, math.MaxInt32, math.MaxInt32 + 1}[next(7)]
	case k < 4 && len(ready) > 0:
		return ready[next(len(ready))]
	}
	return next(ids)
}

// drawnPick is a pick at random: near how many are ready, near the ends, or anywhere.
func drawnPick(next func(int) int, count int) uint64 {
	switch next(5) {
	case 0:
		return 0
	case 1:
		return uint64(next(count + 3))
	case 2:
		return uint64(count) * uint64(next(5))
	case 3:
		return math.MaxUint64 - uint64(next(count+3))
	}
	return uint64(next(math.MaxInt32))<<33 + uint64(next(math.MaxInt32))
}

// drawnCall is a call at random. While the line grows tasks get ready often, else seldom.
func drawnCall(next func(int) int, grows bool, ready []int, ids int) call {
	readies := 3
	if grows {
		readies = 14
	}
	if next(20) < readies {
		return call{kind: "ready", id: drawnId(next, ready, ids)}
	}
	if next(3) == 0 {
		return call{kind: "gone", id: drawnId(next, ready, ids)}
	}
	return call{kind: "pick", p: drawnPick(next, len(ready))}
}

// P14.1 to P14.4: long rows, in which the line grows, past its limit too, shrinks and grows again.
func TestDrawnRows(t *testing.T) {
	t.Parallel()
	full := 0
	for seed := range uint64(36) {
		next := row(seed)
		p := newPair()
		ids := []int{3, 20, 255, 257, 400, 100000}[seed%6]
		for step := range 3000 {
			c := drawnCall(next, step/750%2 == 0, p.model.list(), ids)
			fault := p.do(c)
			if step%5 == 0 || step > 2900 {
				fault += p.unlike()
			}
			if fault != "" {
				t.Fatalf("seed %d, step %d: %s: %s", seed, step, c, fault)
			}
			if len(p.model.since) == most {
				full++
			}
		}
		if fault := p.drain(); fault != "" {
			t.Fatalf("seed %d: %s", seed, fault)
		}
	}
	if full < 100 {
		t.Errorf("the line was full behind %d steps alone", full)
	}
}

// R4: scheds with the same past answer the same, whether or not something was asked in between; asking changes nothing.
func TestAskingChangesNothing(t *testing.T) {
	for seed := range uint64(20) {
		p, quiet := newPair(), newPair()
		next := row(seed)
		for step := range 1200 {
			c := drawnCall(next, step/300%2 == 0, p.model.list(), 300)
			for _, fault := range []string{p.do(c), p.unlike(), p.unlike(), quiet.do(c)} {
				if fault != "" {
					t.Fatalf("seed %d, step %d: %s: %s", seed, step, c, fault)
				}
			}
		}
		holds(t, "what was never asked", quiet.sched, p.sched.List()...)
	}
}
