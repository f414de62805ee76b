package queue

import (
	"fmt"
	"math/bits"
	"slices"
	"testing"
)

// model is a queue by the chapter's words: all that ever stood in it, in the order in which they came, and which of them are gone.
type model[T comparable] struct {
	ever []T
	gone []bool
}

func (m *model[T]) push(x T) {
	m.ever = append(m.ever, x)
	m.gone = append(m.gone, false)
}

// waiting are the places, among all that ever came, of those that are there.
func (m *model[T]) waiting() []int {
	var waiting []int
	for i, gone := range m.gone {
		if !gone {
			waiting = append(waiting, i)
		}
	}
	return waiting
}

func (m *model[T]) list() []T {
	var list []T
	for _, i := range m.waiting() {
		list = append(list, m.ever[i])
	}
	return list
}

func (m *model[T]) take(place int) (T, bool) {
	for i, k := range m.waiting() {
		if i == place {
			m.gone[k] = true
			return m.ever[k], true
		}
	}
	var zero T
	return zero, false
}

func (m *model[T]) drop(gone func(T) bool) int {
	count := 0
	for _, k := range m.waiting() {
		if gone != nil && gone(m.ever[k]) {
			m.gone[k] = true
			count++
		}
	}
	return count
}

// row tells numbers without a pattern, always the same ones.
func row(seed uint64) func(below int) int {
	return func(below int) int {
		seed = seed*6364136223846793005 + 1442695040888963407
		return int((bits.Reverse64(seed) ^ seed>>7) % uint64(below))
	}
}

// call is one thing that is done to a queue. A drop says by mask which of those that are asked go: the first by its lowest bit, and so on, from the 64th on as the one 64 ahead.
type call struct {
	kind  string
	place int
	mask  uint64
}

func (c call) String() string {
	switch c.kind {
	case "take":
		return fmt.Sprint("take ", c.place)
	case "drop":
		return fmt.Sprintf("drop %b", c.mask)
	}
	return c.kind
}

// pair is a queue and what it should be; thing tells the n-th thing that comes.
type pair[T comparable] struct {
	queue *Queue[T]
	model *model[T]
	thing func(n int) T
}

func newPair[T comparable](thing func(n int) T, first int) *pair[T] {
	p := &pair[T]{model: &model[T]{}, thing: thing}
	for n := range first {
		p.model.push(thing(n))
	}
	p.queue = Of(p.model.ever...)
	return p
}

// asker is a gone by a call's mask, and what it was asked.
func asker[T any](mask uint64) (func(T) bool, *[]T) {
	asked := &[]T{}
	return func(x T) bool {
		n := len(*asked)
		*asked = append(*asked, x)
		return mask>>(n%64)&1 == 1
	}, asked
}

// do does a call to both, and says what they answer unlike each other.
func (p *pair[T]) do(c call) string {
	var got, want any
	var ok, should bool
	switch c.kind {
	case "push":
		x := p.thing(len(p.model.ever))
		p.queue.Push(x)
		p.model.push(x)
	case "pop":
		got, ok = p.queue.Pop()
		want, should = p.model.take(0)
	case "take":
		got, ok = p.queue.Take(c.place)
		want, should = p.model.take(c.place)
	case "drop none":
		got, want = p.queue.Drop(nil), p.model.drop(nil)
	case "drop":
		gone, asked := asker[T](c.mask)
		same, wanted := asker[T](c.mask)
		got, want = p.queue.Drop(gone), p.model.drop(same)
		if !slices.Equal(*asked, *wanted) {
			return fmt.Sprintf("asked %.300v, want %.300v", fmt.Sprint(*asked), fmt.Sprint(*wanted))
		}
	}
	if got != want || ok != should {
		return fmt.Sprintf("%v, %v, want %v, %v", got, ok, want, should)
	}
	return ""
}

// unlike says how both differ in all that can be asked of them.
func (p *pair[T]) unlike() string {
	want := p.model.list()
	if got := p.queue.List(); !slices.Equal(got, want) {
		return fmt.Sprintf("the list is %.300v, want %.300v", fmt.Sprint(got), fmt.Sprint(want))
	}
	if got := p.queue.Len(); got != len(want) {
		return fmt.Sprintf("Len is %d, want %d", got, len(want))
	}
	for i := -2; i < len(want)+3; i++ {
		var should T
		there := i >= 0 && i < len(want)
		if there {
			should = want[i]
		}
		if got, ok := p.queue.At(i); got != should || ok != there {
			return fmt.Sprintf("At(%d) is %v, %v, want %v, %v", i, got, ok, should, there)
		}
	}
	return untidy(p.queue)
}

// untidy says what a queue keeps that no call could tell: things that are gone, or room for many more than there are.
func untidy[T comparable](q *Queue[T]) string {
	var zero T
	for i := q.count; i < len(q.ring); i++ {
		if x := q.ring[(q.head+i)%len(q.ring)]; x != zero {
			return fmt.Sprintf("%v is kept, though it is gone", x)
		}
	}
	if len(q.ring) > 4*q.count+4 || cap(q.ring) != len(q.ring) {
		return fmt.Sprintf("room for %d (%d), with %d", len(q.ring), cap(q.ring), q.count)
	}
	return ""
}

// shortCalls are those of which all short rows are tried.
func shortCalls() []call {
	calls := []call{{kind: "push"}, {kind: "pop"}, {kind: "drop none"}}
	for place := -1; place < 5; place++ {
		calls = append(calls, call{kind: "take", place: place})
	}
	for _, mask := range []uint64{0, 1, 2, 5, ^uint64(0)} {
		calls = append(calls, call{kind: "drop", mask: mask})
	}
	return calls
}

// P13.1 to P13.4: all rows of up to five calls, behind Of with up to four things. What is there is asked behind the last call alone, so that no asking can help.
func TestEveryShortRow(t *testing.T) {
	t.Parallel()
	calls := shortCalls()
	thing := func(n int) int { return n + 1 }
	for first := range 5 {
		var try func(row []call)
		try = func(row []call) {
			p := newPair(thing, first)
			for _, c := range row {
				if fault := p.do(c); fault != "" {
					t.Fatalf("Of %d things, then %v: %s", first, row, fault)
				}
			}
			if fault := p.unlike(); fault != "" {
				t.Fatalf("Of %d things, then %v: %s", first, row, fault)
			}
			if len(row) < 5 {
				for _, c := range calls {
					try(append(row[:len(row):len(row)], c))
				}
			}
		}
		try(nil)
	}
}

// drawnCall is a call at random. While the line grows pushes come often, else seldom.
func drawnCall(next func(int) int, grows bool, count int) call {
	pushes := 2
	if grows {
		pushes = 14
	}
	if next(20) < pushes {
		return call{kind: "push"}
	}
	switch next(12) {
	case 0:
		return call{kind: "drop none"}
	case 1:
		mask := uint64(1) << next(64) << next(64)
		if next(10) == 0 {
			mask = uint64(next(1<<31)) << next(33)
		}
		if next(20) == 0 {
			mask = ^uint64(0)
		}
		return call{kind: "drop", mask: mask}
	case 2, 3, 4, 5:
		return call{kind: "pop"}
	case 6:
		return call{kind: "take", place: count - 1}
	case 7:
		return call{kind: "take", place: []int{-1 << 63, -1, count, count + 1, 1<<63 - 1}[next(5)]}
	}
	return call{kind: "take", place: next(count + 1)}
}

func drawnRow[T comparable](t *testing.T, seed uint64, thing func(n int) T) {
	t.Helper()
	next := row(seed)
	p := newPair(thing, next(4)*next(50))
	for step := range 1500 {
		grows := step/300%2 == 0
		c := drawnCall(next, grows, p.queue.Len())
		if fault := p.do(c); fault != "" {
			t.Fatalf("seed %d, step %d: %s: %s", seed, step, c, fault)
		}
		if step%7 == 0 || step > 1400 {
			if fault := p.unlike(); fault != "" {
				t.Fatalf("seed %d, step %d: %s: %s", seed, step, c, fault)
			}
		}
	}
}

// P13.1 to P13.4: long rows, in which lines grow, shrink and grow again, of things of some kinds.
func TestDrawnRows(t *testing.T) {
	t.Parallel()
	for seed := range uint64(40) {
		drawnRow(t, seed, func(n int) int { return n + 1 })
		drawnRow(t, seed+1000, func(n int) string { return fmt.Sprint("thing ", n) })
		drawnRow(t, seed+2000, pointOf)
		drawnRow(t, seed+3000, func(n int) any { return n%3 == 0 })
		drawnRow(t, seed+4000, func(n int) byte { return byte(n % 4) })
		drawnRow(t, seed+5000, func(n int) struct{} { return struct{}{} })
	}
}

// point is a thing of some parts.
type point struct {
	x, y int
	name string
	near *int
}

func pointOf(n int) point {
	near := n
	return point{n, -n, fmt.Sprint(n), &near}
}
