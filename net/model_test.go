package net

import (
	"fmt"
	"math/bits"
	"slices"
	"strings"
	"testing"

	"conduit/api"
)

// The chapter's limits, in its own numbers.
const (
	most    = 256
	longest = 65545
)

// model is a net by the chapter's words: all that was ever sent or doubled, in order, so that a packet's number is one more than its place.
type model struct {
	ever []once
}

type once struct {
	from, to int
	body     string
	gone     bool
}

func (m *model) onWay() int {
	count := 0
	for _, p := range m.ever {
		if !p.gone {
			count++
		}
	}
	return count
}

func (m *model) isOnWay(number int) bool {
	return number >= 1 && number <= len(m.ever) && !m.ever[number-1].gone
}

func (m *model) send(from, to int, body string) (int, api.Errno) {
	switch {
	case len(body) > longest:
		return 0, api.ErrLong
	case m.onWay() == most:
		return 0, api.ErrFull
	}
	m.ever = append(m.ever, once{from: from, to: to, body: body})
	return len(m.ever), api.OK
}

func (m *model) deliver(number int) (told, api.Errno) {
	if !m.isOnWay(number) {
		return told{}, api.ErrPacket
	}
	p := &m.ever[number-1]
	p.gone = true
	return told{number, p.from, p.to, p.body}, api.OK
}

func (m *model) drop(number int) api.Errno {
	_, e := m.deliver(number)
	return e
}

func (m *model) double(number int) (int, api.Errno) {
	if !m.isOnWay(number) {
		return 0, api.ErrPacket
	}
	p := m.ever[number-1]
	return m.send(p.from, p.to, p.body)
}

func (m *model) list() []told {
	var list []told
	for i, p := range m.ever {
		if !p.gone {
			list = append(list, told{i + 1, p.from, p.to, p.body})
		}
	}
	return list
}

func (m *model) copy() *model {
	return &model{slices.Clone(m.ever)}
}

// told is a packet that can be held against another by ==.
type told struct {
	number, from, to int
	body             string
}

func (p told) String() string {
	return fmt.Sprintf("%d: %d to %d, %.20q (%d bytes)", p.number, p.from, p.to, p.body, len(p.body))
}

func toldOf(p api.Packet) told {
	return told{p.Number, p.From, p.To, string(p.Body)}
}

func listOf(n *Net) []told {
	var list []told
	for _, p := range n.List() {
		list = append(list, toldOf(p))
	}
	return list
}

// isZero tells a packet that says nothing.
func isZero(p api.Packet) bool {
	return p.Number == 0 && p.From == 0 && p.To == 0 && p.Body == nil
}

// nextOf is the number that the next Send would take, asked of a copy.
func nextOf(t *testing.T, n *Net) int {
	t.Helper()
	c := n.Copy()
	if l := c.List(); len(l) > 0 {
		c.Drop(l[0].Number)
	}
	number, e := c.Send(0, 0, nil)
	if e != api.OK {
		t.Fatalf("a Send where there is room: %d", e)
	}
	return number
}

// view is all that later calls can tell of a net.
func view(t *testing.T, n *Net) string {
	t.Helper()
	var text strings.Builder
	fmt.Fprint(&text, "next ", nextOf(t, n))
	for _, p := range listOf(n) {
		fmt.Fprintf(&text, ", %d: %d to %d %q", p.number, p.from, p.to, p.body)
	}
	return text.String()
}

// row tells numbers without a pattern, always the same ones.
func row(seed uint64) func(below int) int {
	return func(below int) int {
		seed = seed*6364136223846793005 + 1442695040888963407
		return int((bits.Reverse64(seed) ^ seed>>7) % uint64(below))
	}
}

// bodyOf is a body in which neighbours differ, and that no other seed has.
func bodyOf(seed, size int) []byte {
	b := make([]byte, size)
	for i := range b {
		b[i] = byte(i*7 + i>>8 + seed*31 + 1)
	}
	return b
}

// pair is a net and what it should be.
type pair struct {
	net   *Net
	model *model
}

func newPair() pair {
	return pair{New(), &model{}}
}

// call is one thing that is done to a net.
type call struct {
	kind     string
	number   int
	from, to int
	body     string
}

// do does a call to both, and says what they answer unlike each other.
func (p pair) do(c call) string {
	var got, want any
	var e, should api.Errno
	switch c.kind {
	case "send":
		got, e = p.net.Send(c.from, c.to, []byte(c.body))
		want, should = p.model.send(c.from, c.to, c.body)
	case "deliver":
		packet, errno := p.net.Deliver(c.number)
		if errno != api.OK && !isZero(packet) {
			return fmt.Sprintf("beside %d: %s", errno, toldOf(packet))
		}
		got, e = toldOf(packet), errno
		want, should = p.model.deliver(c.number)
	case "drop":
		e = p.net.Drop(c.number)
		should = p.model.drop(c.number)
	case "double":
		got, e = p.net.Double(c.number)
		want, should = p.model.double(c.number)
	}
	if got != want || e != should {
		return fmt.Sprintf("%v, %d, want %v, %d", got, e, want, should)
	}
	return p.unlike()
}

// unlike says how the lists of both differ.
func (p pair) unlike() string {
	if got, want := listOf(p.net), p.model.list(); !slices.Equal(got, want) {
		return fmt.Sprintf("the list is %.400v, want %.400v", fmt.Sprint(got), fmt.Sprint(want))
	}
	return ""
}

func (p pair) copy() pair {
	return pair{p.net.Copy(), p.model.copy()}
}

// shortCalls are those of which all short rows are tried.
func shortCalls() []call {
	calls := []call{
		{kind: "send", from: 1, to: 2, body: "a"},
		{kind: "send", from: -3, to: 0},
		{kind: "send", from: 1, to: 2, body: strings.Repeat("l", longest+1)},
	}
	for _, kind := range []string{"deliver", "drop", "double"} {
		for number := range 5 {
			calls = append(calls, call{kind: kind, number: number})
		}
	}
	return calls
}

// P12.1 to P12.4: all rows of up to five calls, each done to a copy of the net behind the row ahead of it, that must not see it.
func TestEveryShortRow(t *testing.T) {
	t.Parallel()
	calls := shortCalls()
	var row []string
	var try func(p pair, left int)
	try = func(p pair, left int) {
		if left == 0 {
			return
		}
		for _, c := range calls {
			row = append(row, fmt.Sprint(c.kind, " ", c.number, " ", len(c.body)))
			next := p.copy()
			if fault := next.do(c); fault != "" {
				t.Fatalf("%q: %s", row, fault)
			}
			try(next, left-1)
			if fault := p.unlike(); fault != "" {
				t.Fatalf("%q: what it was copied from: %s", row, fault)
			}
			row = row[:len(row)-1]
		}
	}
	try(newPair(), 5)
}

// drawnCall is a call at random, of which the ends of the numbers come often.
func drawnCall(next func(int) int, m *model) call {
	c := call{kind: []string{"send", "send", "deliver", "drop", "double"}[next(5)]}
	if c.kind == "send" {
		ends := []int{-1 << 63, -1, 0, 1, 2, 1 << 40, 1<<63 - 1}
		c.from, c.to = ends[next(7)], ends[next(7)]
		size := []int{0, 1, 2, 30, 31, 32, 33, 64, 100, 300}[next(10)]
		if next(100) == 0 {
			size = longest + next(2)
		}
		c.body = string(bodyOf(next(50), size))
		return c
	}
	list := m.list()
	switch {
	case next(10) == 0 || len(list) == 0:
		c.number = next(len(m.ever)+4) - 1
	case next(3) == 0:
		c.number = list[[]int{0, len(list) - 1}[next(2)]].number
	default:
		c.number = list[next(len(list))].number
	}
	return c
}

// P12.1 to P12.4: long rows, with nets that grow full and others that stay empty; now and then the row goes on with a copy.
func TestDrawnRows(t *testing.T) {
	t.Parallel()
	for seed := range uint64(24) {
		next := row(seed)
		p := newPair()
		var left []pair
		full := 0
		for step := range 900 {
			c := drawnCall(next, p.model)
			// An even seed lets few packets go, so that the net is full for long.
			if seed%2 == 0 && (c.kind == "deliver" || c.kind == "drop") && next(4) > 0 {
				c.kind = "double"
			}
			if fault := p.do(c); fault != "" {
				t.Fatalf("seed %d, step %d: %s of %d (%d bytes): %s", seed, step, c.kind, c.number, len(c.body), fault)
			}
			if p.model.onWay() == most {
				full++
			}
			if step%300 == 99 {
				left = append(left, p)
				p = p.copy()
			}
		}
		for _, old := range append(left, p) {
			if fault := old.unlike(); fault != "" {
				t.Fatalf("seed %d: %s", seed, fault)
			}
			if got, want := nextOf(t, old.net), len(old.model.ever)+1; got != want {
				t.Fatalf("seed %d: the next number is %d, want %d", seed, got, want)
			}
		}
		if seed%2 == 0 && full == 0 {
			t.Errorf("seed %d: the net was never full", seed)
		}
	}
}
