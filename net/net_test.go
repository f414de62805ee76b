package net

import (
	"bytes"
	"fmt"
	"math"
	"slices"
	"testing"

	"conduit/api"
)

// wanted does a Send or a Double that must answer this number.
func wanted(t *testing.T, what string, want int) func(number int, e api.Errno) {
	t.Helper()
	return func(number int, e api.Errno) {
		t.Helper()
		if number != want || e != api.OK {
			t.Fatalf("%s: %d, %d, want %d, 0", what, number, e, want)
		}
	}
}

// refused does a Send or a Double that must answer this error.
func refused(t *testing.T, what string, want api.Errno) func(number int, e api.Errno) {
	t.Helper()
	return func(number int, e api.Errno) {
		t.Helper()
		if number != 0 || e != want {
			t.Fatalf("%s: %d, %d, want 0, %d", what, number, e, want)
		}
	}
}

// holds says that just these packets are on their way.
func holds(t *testing.T, what string, n *Net, want ...told) {
	t.Helper()
	if got := listOf(n); !slices.Equal(got, want) {
		t.Fatalf("%s: %.400s, want %.400s", what, fmt.Sprint(got), fmt.Sprint(want))
	}
}

// filled is a net of so many packets, numbers 1 and so on.
func filled(t *testing.T, packets int) *Net {
	t.Helper()
	n := New()
	for i := range packets {
		wanted(t, "filling", i+1)(n.Send(i, -i, bodyOf(i, i%40)))
	}
	return n
}

func TestExamples(t *testing.T) {
	n := New()
	wanted(t, "a", 1)(n.Send(1, 2, []byte("a")))
	wanted(t, "b", 2)(n.Send(2, 1, []byte("b")))
	wanted(t, "double", 3)(n.Double(1))
	holds(t, "three", n, told{1, 1, 2, "a"}, told{2, 2, 1, "b"}, told{3, 1, 2, "a"})
	if p, e := n.Deliver(3); toldOf(p) != (told{3, 1, 2, "a"}) || e != api.OK {
		t.Error(p, e)
	}
	if p, e := n.Deliver(3); !isZero(p) || e != api.ErrPacket {
		t.Error(p, e)
	}
	if e := n.Drop(1); e != api.OK {
		t.Error(e)
	}
	holds(t, "one", n, told{2, 2, 1, "b"})
	wanted(t, "none", 4)(n.Send(1, 1, nil))
	holds(t, "two", n, told{2, 2, 1, "b"}, told{4, 1, 1, ""})
}

// P12.1: a new net has no packets, and nothing can be done with any.
func TestNew(t *testing.T) {
	n := New()
	if l := n.List(); len(l) != 0 {
		t.Error(l)
	}
	for _, number := range numbers() {
		refusedAll(t, "a new net", n, number, api.ErrPacket)
	}
	wanted(t, "the first", 1)(n.Send(0, 0, nil))
	// Two new nets are apart.
	if l := New().List(); len(l) != 0 {
		t.Error(l)
	}
	wanted(t, "another's first", 1)(New().Send(0, 0, nil))
}

// P12.2: how many bytes a body has; which ones they are does not matter.
func TestBodies(t *testing.T) {
	sizes := []int{0, 1, 2, 3, 31, 32, 33, 255, 256, 1024, 4096, 60000, 65535, 65536, longest - 1, longest}
	n := New()
	number := 0
	for i, size := range sizes {
		body := bodyOf(i, size)
		number++
		wanted(t, fmt.Sprint(size, " bytes"), number)(n.Send(1, 2, body))
		holds(t, "sent", n, told{number, 1, 2, string(body)})
		number++
		wanted(t, "its double", number)(n.Double(number - 1))
		for _, k := range []int{number, number - 1} {
			if p, e := n.Deliver(k); toldOf(p) != (told{k, 1, 2, string(body)}) || e != api.OK {
				t.Errorf("%d bytes: %s, %d", size, toldOf(p), e)
			}
		}
		holds(t, "delivered", n)
	}
	wanted(t, "one on its way", number+1)(n.Send(3, 4, []byte("x")))
	was := view(t, n)
	for _, size := range []int{longest + 1, longest + 2, 2 * longest, 1 << 20} {
		refused(t, fmt.Sprint(size, " bytes"), api.ErrLong)(n.Send(1, 2, make([]byte, size)))
		if view(t, n) != was {
			t.Errorf("%d bytes: the net has changed", size)
		}
	}
	wanted(t, "behind", number+2)(n.Send(1, 2, nil))
}

// P12.2: every byte arrives, at the body's begin and at its end.
func TestEveryByte(t *testing.T) {
	n := New()
	for octet := range 256 {
		body := bytes.Repeat([]byte{byte(octet)}, 1+octet%5)
		wanted(t, "send", octet+1)(n.Send(0, 0, body))
	}
	for octet := range 256 {
		p, e := n.Deliver(octet + 1)
		if e != api.OK || !bytes.Equal(p.Body, bytes.Repeat([]byte{byte(octet)}, 1+octet%5)) {
			t.Errorf("%x: %x, %d", octet, p.Body, e)
		}
	}
}

// P12.2: nothing is asked of from and to.
func TestAddresses(t *testing.T) {
	ends := []int{math.MinInt, math.MinInt + 1, math.MinInt32, -256, -1, 0, 1, 2, 255, 256, 1 << 20, math.MaxInt32, 1 << 40, math.MaxInt - 1, math.MaxInt}
	n := New()
	var want []told
	for _, from := range ends {
		for _, to := range ends {
			number := len(want) + 1
			want = append(want, told{number, from, to, fmt.Sprint(from, to)})
			wanted(t, "send", number)(n.Send(from, to, []byte(fmt.Sprint(from, to))))
		}
	}
	holds(t, "all", n, want...)
	for i, p := range want {
		// One is doubled, so that the double's ends are seen, too.
		double := len(want) + i + 1
		wanted(t, "double", double)(n.Double(p.number))
		for _, k := range []int{p.number, double} {
			p.number = k
			if got, e := n.Deliver(k); toldOf(got) != p || e != api.OK {
				t.Errorf("%s, %d, want %s", toldOf(got), e, p)
			}
		}
	}
	holds(t, "none", n)
}

// P12.2: how many are on their way; the errors of Send in their order.
func TestSendFull(t *testing.T) {
	long := make([]byte, longest+1)
	for _, packets := range []int{0, 1, 254, 255} {
		n := filled(t, packets)
		refused(t, fmt.Sprint("too long with ", packets), api.ErrLong)(n.Send(1, 2, long))
		wanted(t, fmt.Sprint("one more than ", packets), packets+1)(n.Send(1, 2, []byte("x")))
		if got := len(n.List()); got != packets+1 {
			t.Errorf("%d on their way", got)
		}
	}
	n := filled(t, most)
	was := view(t, n)
	for _, body := range [][]byte{nil, []byte("x"), make([]byte, longest)} {
		refused(t, "full", api.ErrFull)(n.Send(1, 2, body))
	}
	refused(t, "full and too long", api.ErrLong)(n.Send(1, 2, long))
	if view(t, n) != was {
		t.Error("the net has changed")
	}
	// Each one that goes makes room for one.
	for i := range 3 * most {
		gone := i + 1
		if i%2 == 0 {
			if e := n.Drop(gone); e != api.OK {
				t.Fatal(gone, e)
			}
		} else if _, e := n.Deliver(gone); e != api.OK {
			t.Fatal(gone, e)
		}
		wanted(t, "room for one", most+i+1)(n.Send(1, 2, nil))
		refused(t, "full again", api.ErrFull)(n.Send(1, 2, nil))
	}
}

// P12.3: Double likewise.
func TestDoubleFull(t *testing.T) {
	n := filled(t, 255)
	wanted(t, "the last one that there is room for", 256)(n.Double(7))
	was := view(t, n)
	for _, number := range []int{1, 7, 128, 255, 256} {
		refused(t, "full", api.ErrFull)(n.Double(number))
	}
	for _, number := range []int{math.MinInt, -1, 0, 257, 258, math.MaxInt} {
		refused(t, "full, and not on its way", api.ErrPacket)(n.Double(number))
	}
	if view(t, n) != was {
		t.Error("the net has changed")
	}
	if e := n.Drop(7); e != api.OK {
		t.Error(e)
	}
	refused(t, "gone", api.ErrPacket)(n.Double(7))
	wanted(t, "room for one", 257)(n.Double(256))
	refused(t, "full and gone", api.ErrPacket)(n.Double(7))
	refused(t, "full", api.ErrFull)(n.Double(257))
	p, e := n.Deliver(257)
	if toldOf(p) != (told{257, 6, -6, string(bodyOf(6, 6))}) || e != api.OK {
		t.Error(toldOf(p), e)
	}
	// One packet, doubled till there is no room.
	n = filled(t, 1)
	for number := 2; number <= most; number++ {
		wanted(t, "double", number)(n.Double(1 + (number*5)%(number-1)))
	}
	refused(t, "full", api.ErrFull)(n.Double(1))
	for _, p := range n.List() {
		if p.From != 0 || p.To != 0 || len(p.Body) != 0 {
			t.Error(p)
		}
	}
}

// numbers are some that are nobody's in a net of few packets.
func numbers() []int {
	return []int{math.MinInt, math.MinInt32, -1 << 32, -257, -256, -3, -2, -1, 0, 1 << 16, math.MaxInt32, 1 << 32, 1<<32 + 1, 1<<32 + 2, math.MaxInt}
}

// refusedAll says that a packet can't be delivered, dropped or doubled, and that the net stays as it was.
func refusedAll(t *testing.T, what string, n *Net, number int, want api.Errno) {
	t.Helper()
	before := listOf(n)
	if p, e := n.Deliver(number); !isZero(p) || e != want {
		t.Errorf("%s: Deliver(%d): %s, %d", what, number, toldOf(p), e)
	}
	if e := n.Drop(number); e != want {
		t.Errorf("%s: Drop(%d): %d", what, number, e)
	}
	if k, e := n.Double(number); k != 0 || e != want {
		t.Errorf("%s: Double(%d): %d, %d", what, number, k, e)
	}
	holds(t, what, n, before...)
}

// P12.3: numbers that are on their way, were, and never were.
func TestNumbers(t *testing.T) {
	n := filled(t, 5)
	wanted(t, "double", 6)(n.Double(2))
	n.Deliver(4)
	n.Drop(1)
	n.Deliver(6)
	was := view(t, n)
	for _, number := range append(numbers(), 1, 4, 6, 7, 8) {
		refusedAll(t, "not on its way", n, number, api.ErrPacket)
	}
	if view(t, n) != was {
		t.Error("the net has changed")
	}
	// That one of a double and its like is gone does not touch the other.
	if p, e := n.Deliver(2); toldOf(p) != (told{2, 1, -1, string(bodyOf(1, 1))}) || e != api.OK {
		t.Error(toldOf(p), e)
	}
	refusedAll(t, "delivered", n, 2, api.ErrPacket)
	if e := n.Drop(3); e != api.OK {
		t.Error(e)
	}
	refusedAll(t, "dropped", n, 3, api.ErrPacket)
	holds(t, "the last", n, told{5, 4, -4, string(bodyOf(4, 4))})
	wanted(t, "next", 7)(n.Double(5))
}

// P12.4: each Send and Double takes the next number, an error none, and none comes twice, whoever is gone.
func TestNumbersRise(t *testing.T) {
	n := New()
	seen := map[int]int{}
	for number := 1; number <= 5000; number++ {
		refused(t, "too long", api.ErrLong)(n.Send(1, 2, make([]byte, longest+1)))
		refused(t, "not on its way", api.ErrPacket)(n.Double(number))
		refusedAll(t, "not on its way", n, 0, api.ErrPacket)
		if number%3 == 0 {
			wanted(t, "double", number)(n.Double(number - 1))
		} else {
			wanted(t, "send", number)(n.Send(1, 2, nil))
		}
		// Now and then none is left, so that nothing on its way tells the number.
		if number%6 == 0 {
			for _, p := range n.List() {
				seen[p.Number]++
				n.Deliver(p.Number)
			}
			holds(t, "none left", n)
		}
	}
	for number, times := range seen {
		if times != 1 {
			t.Errorf("%d came %d times", number, times)
		}
	}
	if len(seen) != 4998 || len(n.List()) != 2 {
		t.Error(len(seen), len(n.List()))
	}
}

// P12.1: by rising numbers, however they came; numbers of one, two, three and four digits stand as numbers.
func TestListRises(t *testing.T) {
	n := New()
	next := row(5)
	for number := 1; number <= 2000; number++ {
		if l := n.List(); len(l) > 0 && next(2) == 0 {
			wanted(t, "double", number)(n.Double(l[next(len(l))].Number))
		} else {
			wanted(t, "send", number)(n.Send(1, 2, nil))
		}
		l := n.List()
		for i := range l[1:] {
			if l[i].Number >= l[i+1].Number {
				t.Fatal(l[i].Number, l[i+1].Number)
			}
		}
		if l[len(l)-1].Number != number {
			t.Fatal(l[len(l)-1].Number, number)
		}
		for len(l) > 200 {
			k := next(len(l))
			n.Drop(l[k].Number)
			l = slices.Delete(l, k, k+1)
		}
		if got := len(n.List()); got != len(l) {
			t.Fatal(got, len(l))
		}
	}
}

// P12.4: in whatever order packets are delivered, each comes once, and as it was sent.
func TestEveryOrder(t *testing.T) {
	sent := []told{{1, 5, 6, "a"}, {2, 6, 5, "b"}, {3, 5, 6, "a"}, {4, 0, -1, ""}, {5, 7, 7, string(bodyOf(1, 100))}}
	var try func(order []int)
	try = func(order []int) {
		if len(order) < len(sent) {
			for k := range sent {
				if !slices.Contains(order, k+1) {
					try(append(order, k+1))
				}
			}
			return
		}
		n := New()
		for _, p := range sent {
			wanted(t, "send", p.number)(n.Send(p.from, p.to, []byte(p.body)))
		}
		for _, number := range order {
			if p, e := n.Deliver(number); toldOf(p) != sent[number-1] || e != api.OK {
				t.Fatalf("%v: %s, %d", order, toldOf(p), e)
			}
			if p, e := n.Deliver(number); !isZero(p) || e != api.ErrPacket {
				t.Fatalf("%v: %s, %d", order, toldOf(p), e)
			}
		}
		holds(t, "all delivered", n)
	}
	try(nil)
}

// P12.1: a copy has the same packets and the same next number.
func TestCopySame(t *testing.T) {
	for _, packets := range []int{0, 1, 2, 255, 256} {
		n := filled(t, packets)
		if packets > 1 {
			n.Drop(1)
			wanted(t, "double", packets+1)(n.Double(2))
			n.Deliver(2)
		}
		was := listOf(n)
		c := n.Copy()
		if c == nil || c == n {
			t.Fatalf("%d packets: no copy, or the net itself", packets)
		}
		holds(t, "the copy", c, was...)
		holds(t, "what it was copied from", n, was...)
		holds(t, "a copy's copy", c.Copy(), was...)
		for _, number := range append(numbers(), packets+2) {
			refusedAll(t, "the copy", c, number, api.ErrPacket)
		}
		want, e := n.Send(1, 2, nil)
		got, ee := c.Send(1, 2, nil)
		if got != want || e != ee {
			t.Errorf("%d packets: %d, %d, want %d, %d", packets, got, ee, want, e)
		}
	}
	// The next number is copied, too, if none is on its way any more.
	n := filled(t, 9)
	for number := range 10 {
		n.Drop(number)
	}
	wanted(t, "a copy of none", 10)(n.Copy().Send(0, 0, nil))
	wanted(t, "a copy's copy", 10)(n.Copy().Copy().Send(0, 0, nil))
}

// P12.1: what is done to one is not seen at the other.
func TestCopyApart(t *testing.T) {
	changes := map[string]func(n *Net){
		"send":    func(n *Net) { n.Send(8, 9, []byte("new")) },
		"deliver": func(n *Net) { n.Deliver(2) },
		"drop":    func(n *Net) { n.Drop(1) },
		"double":  func(n *Net) { n.Double(3) },
		"all": func(n *Net) {
			for _, p := range n.List() {
				n.Drop(p.Number)
				n.Send(p.To, p.From, []byte("other"))
			}
		},
		"what is answered": func(n *Net) {
			for _, p := range n.List() {
				smear(p.Body)
			}
			p, _ := n.Deliver(3)
			smear(p.Body)
		},
	}
	for what, change := range changes {
		for _, first := range []bool{true, false} {
			n := filled(t, 50)
			c := n.Copy()
			one, other := n, c
			if !first {
				one, other = c, n
			}
			was := view(t, other)
			change(one)
			if view(t, other) != was {
				t.Errorf("%s, the first %v: the other has changed", what, first)
			}
			if view(t, one) == was {
				t.Errorf("%s, the first %v: it has not changed", what, first)
			}
			wanted(t, what, 51)(other.Send(1, 2, nil))
		}
	}
}

// noNets are nets that neither New nor Copy answered.
func noNets(t *testing.T) map[string]*Net {
	t.Helper()
	moved := new(Net)
	*moved = *filled(t, 3)
	full := new(Net)
	*full = *filled(t, most)
	empty := new(Net)
	*empty = *New()
	copied := new(Net)
	*copied = *filled(t, 3).Copy()
	twice := new(Net)
	*twice = *moved
	// One that was made is none any more when another's value is laid over it.
	over := New()
	*over = *filled(t, 3)
	return map[string]*Net{
		"nil":                     nil,
		"new":                     new(Net),
		"a literal":               {},
		"copied as a value":       moved,
		"a full one, copied":      full,
		"an empty one, copied":    empty,
		"a copy, copied":          copied,
		"twice copied":            twice,
		"laid over another's":     over,
		"a copy of none by Copy":  (*Net)(nil).Copy(),
		"a copy of what is moved": moved.Copy(),
	}
}

// R5: ErrNil ahead of every other error, zeros beside it.
func TestNoNet(t *testing.T) {
	for what, n := range noNets(t) {
		for _, body := range [][]byte{nil, []byte("x"), make([]byte, longest), make([]byte, longest+1)} {
			refused(t, what, api.ErrNil)(n.Send(1, 2, body))
		}
		for _, number := range append(numbers(), 1, 2, 3, 4, 256, 257) {
			refusedAll(t, what, n, number, api.ErrNil)
		}
		if l := n.List(); l != nil {
			t.Errorf("%s: a list of %d", what, len(l))
		}
		if c := n.Copy(); c != nil {
			t.Errorf("%s: a copy of none", what)
		}
	}
}

// A net that was copied as a value stays itself, whatever is tried with the copy.
func TestCopiedAsValue(t *testing.T) {
	n := filled(t, 3)
	was := view(t, n)
	moved := *n
	moved.Send(1, 2, []byte("x"))
	moved.Double(1)
	moved.Drop(2)
	moved.Deliver(3)
	moved.List()
	moved.Copy()
	if view(t, n) != was {
		t.Error("the net has changed")
	}
	wanted(t, "next", 4)(n.Send(1, 2, nil))
}

// R2: beside an error nothing has changed, with 0, some, and 256 on their way.
func TestErrorsChangeNothing(t *testing.T) {
	for _, packets := range []int{0, 1, 5, 255, 256} {
		n := filled(t, packets)
		if packets > 1 {
			n.Drop(1)
			n.Send(1, 2, []byte("last"))
		}
		was := view(t, n)
		refused(t, "too long", api.ErrLong)(n.Send(1, 2, make([]byte, longest+1)))
		for _, number := range append(numbers(), packets+2, packets+3) {
			refusedAll(t, "not on its way", n, number, api.ErrPacket)
		}
		if packets == most {
			refused(t, "full", api.ErrFull)(n.Send(1, 2, nil))
			refused(t, "full", api.ErrFull)(n.Double(2))
			refused(t, "full", api.ErrPacket)(n.Double(1))
		}
		if view(t, n) != was {
			t.Errorf("%d packets: the net has changed", packets)
		}
	}
}

// List and Copy change nothing, either.
func TestAskingChangesNothing(t *testing.T) {
	n := filled(t, 20)
	was := listOf(n)
	for range 10 {
		n.List()
		n.Copy().Send(1, 2, nil)
		holds(t, "asked", n, was...)
	}
	wanted(t, "next", 21)(n.Send(1, 2, nil))
}

// smear changes a list's bytes, those of its spare room too.
func smear(b []byte) {
	for i := range b[:cap(b)] {
		b[:cap(b)][i] ^= 0xA5
	}
}

func sizesOfBodies() []int {
	return []int{0, 1, 2, 7, 31, 32, 33, 100, 1000, longest}
}

// R3: what is handed in is neither changed nor kept, its spare room neither.
func TestHandedIn(t *testing.T) {
	for i, size := range sizesOfBodies() {
		n := New()
		roomy := bodyOf(i, size+100)
		was := bytes.Clone(roomy)
		wanted(t, "send", 1)(n.Send(1, 2, roomy[:size]))
		wanted(t, "the same again", 2)(n.Send(2, 1, roomy[:size]))
		wanted(t, "double", 3)(n.Double(1))
		c := n.Copy()
		if !bytes.Equal(roomy, was) {
			t.Errorf("%d bytes: changed", size)
		}
		smear(roomy)
		body := string(was[:size])
		for _, net := range []*Net{n, c} {
			holds(t, "behind a change of what was handed in", net, told{1, 1, 2, body}, told{2, 2, 1, body}, told{3, 1, 2, body})
			for _, number := range []int{3, 1, 2} {
				if p, e := net.Deliver(number); string(p.Body) != body || e != api.OK {
					t.Errorf("%d bytes: kept: %s, %d", size, toldOf(p), e)
				}
			}
		}
	}
	// One that is refused is neither changed nor kept.
	roomy := bodyOf(1, longest+100)
	was := bytes.Clone(roomy)
	filled(t, 2).Send(1, 2, roomy[:longest+1])
	filled(t, most).Send(1, 2, roomy[:10])
	(*Net)(nil).Send(1, 2, roomy[:10])
	if !bytes.Equal(roomy, was) {
		t.Error("changed")
	}
}

// R3: what is handed out is new: of Deliver, of each place of a List, of two Lists, of a packet and its double, of a net and its copy.
func TestHandedOut(t *testing.T) {
	for i, size := range sizesOfBodies() {
		n := New()
		body := string(bodyOf(i, size))
		wanted(t, "send", 1)(n.Send(1, 2, []byte(body)))
		wanted(t, "another", 2)(n.Send(3, 4, []byte(body)))
		wanted(t, "double", 3)(n.Double(1))
		wanted(t, "double's double", 4)(n.Double(3))
		c := n.Copy()
		all := []told{{1, 1, 2, body}, {2, 3, 4, body}, {3, 1, 2, body}, {4, 1, 2, body}}
		var answers [][]byte
		for _, list := range [][]api.Packet{n.List(), n.List(), c.List(), c.List()} {
			for _, p := range list {
				answers = append(answers, p.Body)
			}
		}
		// Packets 1 and 3 go, a copy tells them still.
		for _, net := range []*Net{n, c} {
			for _, number := range []int{1, 3} {
				p, _ := net.Copy().Deliver(number)
				answers = append(answers, p.Body)
			}
		}
		p, _ := n.Deliver(1)
		answers = append(answers, p.Body)
		for k, answer := range answers {
			smear(answer)
			for _, other := range answers[k+1:] {
				if string(other) != body {
					t.Fatalf("%d bytes: answers share memory", size)
				}
			}
			holds(t, "behind a change of what was answered", n, all[1:]...)
			holds(t, "and its copy", c, all...)
		}
		for _, number := range []int{4, 3, 2} {
			if p, e := n.Deliver(number); toldOf(p) != all[number-1] || e != api.OK {
				t.Errorf("%d bytes: %s, %d", size, toldOf(p), e)
			}
		}
	}
}

// R3: what is put into a list's spare room is no other answer's.
func TestSpareRoom(t *testing.T) {
	n := filled(t, 37)
	first, second := n.List(), n.List()
	for i := range first {
		first[i].Body = append(first[i].Body, "spare room"...)
	}
	for i, p := range second {
		if toldOf(p) != (told{i + 1, i, -i, string(bodyOf(i, i%40))}) {
			t.Errorf("%s", toldOf(p))
		}
	}
	for i, p := range first {
		if string(p.Body) != string(bodyOf(i, i%40))+"spare room" {
			t.Errorf("%s", toldOf(p))
		}
	}
}

// R3: a list's own places may be changed likewise.
func TestListsApart(t *testing.T) {
	n := filled(t, 37)
	was := listOf(n)
	first, second := n.List(), n.List()
	for _, list := range [][]api.Packet{first, n.Copy().List()} {
		all := list[:cap(list)]
		for i := range all {
			all[i] = api.Packet{Number: -1, From: -1, To: -1, Body: []byte("changed")}
		}
	}
	for i, p := range second {
		if toldOf(p) != was[i] {
			t.Errorf("%s", toldOf(p))
		}
	}
	holds(t, "behind", n, was...)
}

// What was answered stays, whatever is done with the net then.
func TestAnswersStay(t *testing.T) {
	n := filled(t, 30)
	was := listOf(n)
	list := n.List()
	p, _ := n.Deliver(30)
	for number := range 30 {
		n.Drop(number)
		n.Send(9, 9, bodyOf(77, 35))
	}
	for i := range list {
		if toldOf(list[i]) != was[i] {
			t.Errorf("%s", toldOf(list[i]))
		}
	}
	if toldOf(p) != was[29] {
		t.Errorf("%s", toldOf(p))
	}
}

// R4, R6: the same past tells the same, and none is as good as an empty list.
func TestSamePast(t *testing.T) {
	var views []string
	for _, none := range [][]byte{nil, {}, make([]byte, 0, 9), bodyOf(1, 9)[:0]} {
		n := New()
		n.Send(1, 2, none)
		n.Send(3, 4, []byte("x"))
		n.Double(1)
		n.Double(2)
		n.Drop(2)
		p, e := n.Deliver(1)
		views = append(views, fmt.Sprint(view(t, n), toldOf(p), e))
	}
	for _, v := range views {
		if v != views[0] {
			t.Errorf("%q, %q", v, views[0])
		}
	}
}

// The most that can be on its way at once.
func TestMost(t *testing.T) {
	n := New()
	var want []told
	for i := range most {
		body := bodyOf(i, longest)
		wanted(t, "send", i+1)(n.Send(i, -i, body))
		want = append(want, told{i + 1, i, -i, string(body)})
	}
	holds(t, "all", n, want...)
	refused(t, "full", api.ErrFull)(n.Double(1))
	c := n.Copy()
	for i := most - 1; i >= 0; i-- {
		if p, e := n.Deliver(i + 1); toldOf(p) != want[i] || e != api.OK {
			t.Fatal(i, e)
		}
	}
	holds(t, "none", n)
	holds(t, "the copy", c, want...)
}
