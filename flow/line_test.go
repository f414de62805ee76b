package flow

import (
	"errors"
	"fmt"
	"slices"
	"strconv"
	"testing"

	"conduit/api"
	"conduit/chans"
	"conduit/csp"
)

// holding is how an open channel stands that has so many values in its buffer, and nobody waits.
func holding(size, count int) look {
	return look{len: count, cap: size, canSend: count < size, canRecv: count > 0}
}

// left is the same of a closed one.
func left(size, count int) look {
	return look{len: count, cap: size, closed: true, canSend: true, canRecv: true}
}

// nothing says that a channel tells that nothing comes any more.
func nothing[T comparable](t *testing.T, what string, c *chans.Chan[T]) {
	t.Helper()
	var zero T
	v, ok, can := c.TryRecv()
	answers(t, what+": the end", v == zero && !ok && can, true)
	looks(t, what, c, spent(c.Cap()))
}

// P19.1: a task that is ready, and sends nothing ahead of its turn; then one thing a turn; it closes in the turn behind the last one's.
func TestFeedByTurns(t *testing.T) {
	r := csp.New()
	c := feedOf(t, r, []int{1, 2}, 0)
	stands(t, "fed", r, []int{0}, nil)
	steps(t, "the first", r, 1)
	looks(t, "the first", c, sending(0, 1))
	stands(t, "the first", r, nil, []int{0})
	gets(t, "the first", c, 1)
	stands(t, "it is received", r, []int{0}, nil)
	looks(t, "it is received", c, empty(0))
	steps(t, "the second", r, 1)
	looks(t, "the second", c, sending(0, 1))
	gets(t, "the second", c, 2)
	looks(t, "ahead of the last turn", c, empty(0))
	steps(t, "the last turn", r, 1)
	looks(t, "the last turn", c, spent(0))
	ends(t, "over", r)
}

// P19.1: the same with room in the channel, and with somebody who waits.
func TestFeedWithRoom(t *testing.T) {
	r := csp.New()
	c := feedOf(t, r, []string{"a", "b", "c"}, 2)
	for i := range 2 {
		steps(t, "room", r, 1)
		looks(t, "room", c, holding(2, i+1))
		stands(t, "room", r, []int{0}, nil)
	}
	steps(t, "no room", r, 1)
	looks(t, "no room", c, sending(2, 1))
	gets(t, "a", c, "a")
	looks(t, "a", c, holding(2, 2))
	steps(t, "the last turn", r, 1)
	looks(t, "the last turn", c, left(2, 2))
	stands(t, "the last turn", r, nil, nil)
	gets(t, "b", c, "b")
	gets(t, "c", c, "c")
	nothing(t, "behind c", c)
	d := &diary{}
	c = feedOf(t, r, []string{"a"}, 0)
	watch(t, d, "w", c)
	steps(t, "somebody waits", r, 1)
	d.reads(t, "somebody waits", "w a true")
	looks(t, "somebody waits", c, empty(0))
	steps(t, "the end", r, 1)
	nothing(t, "the end", c)
	stands(t, "the end", r, nil, nil)
}

// P19.1: of no things it closes in its first turn, at any size; whoever waits there is told false.
func TestFeedOfNothing(t *testing.T) {
	for _, l := range [][]int{nil, {}, make([]int, 0, 5)} {
		for _, size := range []int{0, 1, 64} {
			r, d := csp.New(), &diary{}
			c := feedOf(t, r, l, size)
			watch(t, d, "w", c)
			looks(t, "ahead", c, receiving(size, 1))
			d.reads(t, "ahead")
			steps(t, "its turn", r, 1)
			d.reads(t, "its turn", "w 0 false")
			nothing(t, "its turn", c)
			stands(t, "its turn", r, nil, nil)
		}
	}
}

// P19.1, R3: what is sent are the things as they are when Feed is called; the list that is handed in is not changed, nor its spare room.
func TestFeedKeepsItsOwn(t *testing.T) {
	r := csp.New()
	whole := []int{1, 2, 3, 4, 5}
	b := collectOf(t, r, feedOf(t, r, whole[1:3], 0))
	ends(t, "as it is", r)
	holds(t, "as it is", b, true, 2, 3)
	lists(t, "it is not changed", whole, 1, 2, 3, 4, 5)
	b = collectOf(t, r, feedOf(t, r, whole, 1))
	steps(t, "one turn", r, 1)
	for i := range whole {
		whole[i] = 9
	}
	ends(t, "changed", r)
	holds(t, "changed", b, true, 1, 2, 3, 4, 5)
	lists(t, "it is as it was changed", whole, 9, 9, 9, 9, 9)
}

// P19.1: somebody else closes the channel, ahead of a Send, within one that waits, and behind it: the task is over, and sends no more.
func TestFeedIsClosed(t *testing.T) {
	for turns := range 3 {
		r := csp.New()
		c := feedOf(t, r, []int{1, 2, 3, 4}, 2)
		steps(t, "ahead", r, turns)
		closes(t, "somebody", c)
		looks(t, "closed", c, left(2, turns))
		steps(t, "a Send told false", r, 2)
		looks(t, "over", c, left(2, turns))
		ends(t, "over", r)
	}
	r := csp.New()
	c := feedOf(t, r, []int{1, 2, 3, 4}, 2)
	steps(t, "it waits", r, 3)
	closes(t, "somebody", c)
	stands(t, "it is told", r, []int{0}, nil)
	steps(t, "its turn", r, 1)
	ends(t, "over", r)
	gets(t, "what was sent", c, 1)
	gets(t, "what was sent", c, 2)
	nothing(t, "what was sent", c)
	c = feedOf(t, r, []int{1}, 0)
	steps(t, "it waits", r, 1)
	closes(t, "somebody", c)
	nothing(t, "nothing was sent", c)
	steps(t, "its turn", r, 1)
	ends(t, "over", r)
}

// P19.1: somebody else closes the channel behind the last Send, ahead of the task's last turn, and behind that.
func TestFeedIsClosedAtLast(t *testing.T) {
	r := csp.New()
	c := feedOf(t, r, []int{1}, 1)
	steps(t, "the Send", r, 1)
	closes(t, "somebody", c)
	looks(t, "closed", c, left(1, 1))
	steps(t, "the last turn", r, 1)
	ends(t, "over", r)
	gets(t, "it was sent", c, 1)
	c = feedOf[int](t, r, nil, 1)
	closes(t, "somebody", c)
	steps(t, "the only turn", r, 1)
	ends(t, "over", r)
	c = feedOf[int](t, r, nil, 1)
	ends(t, "over", r)
	answers(t, "Close behind it", c.Close(), api.ErrClosed)
}

// P19.1: of many things, of one, of such as are shared, and of none.
func TestFeedThings(t *testing.T) {
	r := csp.New()
	many := numbers(1, 1000)
	for _, size := range []int{0, 1, 63, 64} {
		b := collectOf(t, r, feedOf(t, r, many, size))
		ends(t, "many", r)
		holds(t, "many", b, true, many...)
	}
	x, y := new(int), new(int)
	b := collectOf(t, r, feedOf(t, r, []*int{x, nil, y, x}, 1))
	ends(t, "shared", r)
	lists(t, "shared", b.List(), x, nil, y, x)
	shared := []int{1}
	l := collectOf(t, r, feedOf(t, r, [][]int{shared}, 0))
	ends(t, "a list of lists", r)
	shared[0] = 5
	holds(t, "a list of lists", l, true, []int{5})
	e := collectOf(t, r, feedOf(t, r, []any{nil, 1, "a", nil}, 0))
	ends(t, "all kinds", r)
	holds(t, "all kinds", e, true, nil, 1, "a", nil)
}

// noting is f of a pipe that notes each thing, and how the channel behind it stands then.
func (d *diary) noting(out **chans.Chan[string]) func(x int) string {
	return func(x int) string {
		d.note("f of %d, %d in it, %v", x, (*out).Len(), (*out).Closed())
		return strconv.Itoa(x)
	}
}

// P19.2: f is asked once for each thing, in the turn in which it was told, ahead of the Send; the task receives again when its Send was told.
func TestPipeByTurns(t *testing.T) {
	r, d := csp.New(), &diary{}
	var out *chans.Chan[string]
	in := chanOf[int](t, r, 2)
	out = pipeOf(t, r, in, d.noting(&out), 1)
	stands(t, "new", r, []int{0}, nil)
	looks(t, "nobody waits ahead of the first turn", in, empty(2))
	steps(t, "it waits", r, 1)
	looks(t, "it waits", in, receiving(2, 1))
	puts(t, "7", in, 7)
	puts(t, "8", in, 8)
	puts(t, "9", in, 9)
	d.reads(t, "ahead of its turn")
	looks(t, "ahead of its turn", out, empty(1))
	steps(t, "told 7", r, 1)
	d.reads(t, "told 7", "f of 7, 0 in it, false")
	looks(t, "told 7", out, holding(1, 1))
	looks(t, "told 7", in, holding(2, 2))
	steps(t, "received 8", r, 1)
	looks(t, "received 8", in, holding(2, 1))
	d.reads(t, "received 8")
	steps(t, "told 8", r, 1)
	d.reads(t, "told 8", "f of 8, 1 in it, false")
	looks(t, "told 8", out, sending(1, 1))
	answers(t, "no more turns", r.Run(nil, 9), 0)
	gets(t, "7", out, "7")
	steps(t, "9", r, 2)
	d.reads(t, "told 9", "f of 9, 1 in it, false")
	gets(t, "8", out, "8")
	gets(t, "9", out, "9")
	steps(t, "it waits again", r, 1)
	closes(t, "in", in)
	looks(t, "ahead of its last turn", out, empty(1))
	steps(t, "its last turn", r, 1)
	nothing(t, "its last turn", out)
	stands(t, "its last turn", r, nil, nil)
	d.reads(t, "nothing of the end")
}

// P19.2: in is closed ahead of the call, with things in it and without.
func TestPipeOfClosed(t *testing.T) {
	for count := range 4 {
		r, d := csp.New(), &diary{}
		in := chanOf[int](t, r, 5)
		for i := range count {
			puts(t, "in", in, i)
		}
		closes(t, "in", in)
		var out *chans.Chan[string]
		out = pipeOf(t, r, in, d.noting(&out), 8)
		steps(t, "two turns a thing, two at the end", r, 2*count+1)
		looks(t, "ahead of the last", out, holding(8, count))
		steps(t, "the last", r, 1)
		looks(t, "the last", out, left(8, count))
		stands(t, "the last", r, nil, nil)
		answers(t, "asked", len(d.lines), count)
		for i := range count {
			gets(t, "out", out, strconv.Itoa(i))
		}
		nothing(t, "out", out)
	}
}

// P19.2: somebody else closes the new channel ahead of the first thing: f is asked for that one, which nobody gets; the task is over, and takes no more.
func TestPipeIsClosedAhead(t *testing.T) {
	r, d := csp.New(), &diary{}
	in := chanOf[int](t, r, 3)
	var out *chans.Chan[string]
	out = pipeOf(t, r, in, d.noting(&out), 1)
	closes(t, "somebody", out)
	steps(t, "it waits all the same", r, 1)
	looks(t, "it waits all the same", in, receiving(3, 1))
	for i := range 4 {
		puts(t, "in", in, i+1)
	}
	steps(t, "told, and told false", r, 2)
	d.reads(t, "f", "f of 1, 0 in it, true")
	stands(t, "over", r, nil, nil)
	looks(t, "the rest", in, holding(3, 3))
	nothing(t, "out", out)
}

// P19.2: the same within a Send that waits, and behind one.
func TestPipeIsClosedWithin(t *testing.T) {
	r, d := csp.New(), &diary{}
	in := chanOf[int](t, r, 4)
	var out *chans.Chan[string]
	out = pipeOf(t, r, in, d.noting(&out), 1)
	for i := range 4 {
		puts(t, "in", in, i+1)
	}
	steps(t, "it waits with the second", r, 4)
	looks(t, "it waits with the second", out, sending(1, 1))
	closes(t, "somebody", out)
	steps(t, "told false", r, 1)
	stands(t, "over", r, nil, nil)
	looks(t, "the rest", in, holding(4, 2))
	looks(t, "what was sent", out, left(1, 1))
	d.reads(t, "f", "f of 1, 0 in it, false", "f of 2, 1 in it, false")
	out = pipeOf(t, r, in, d.noting(&out), 4)
	steps(t, "3 is sent", r, 2)
	closes(t, "somebody", out)
	steps(t, "told true, and told 4", r, 2)
	steps(t, "told false", r, 1)
	stands(t, "over", r, nil, nil)
	looks(t, "what was sent", out, left(4, 1))
	d.reads(t, "f", "f of 3, 0 in it, false", "f of 4, 1 in it, true")
	looks(t, "in is open", in, empty(4))
}

// P19.2: somebody else closes the new channel, then in: the task finds it closed already.
func TestPipeIsClosedAtLast(t *testing.T) {
	r := csp.New()
	in := chanOf[int](t, r, 0)
	out := pipeOf(t, r, in, double, 1)
	steps(t, "it waits", r, 1)
	closes(t, "out", out)
	stands(t, "it waits on", r, nil, []int{0})
	closes(t, "in", in)
	steps(t, "told false", r, 1)
	stands(t, "over", r, nil, nil)
	nothing(t, "out", out)
}

// P19.2: f closes what it likes, and begins other lines.
func TestPipeOfBusyFunction(t *testing.T) {
	r := csp.New()
	in := feedOf(t, r, []int{1, 2, 3}, 3)
	var out *chans.Chan[int]
	asked := 0
	out = pipeOf(t, r, in, func(x int) int {
		asked++
		if x == 2 {
			closes(t, "f", out)
		}
		return x
	}, 3)
	ends(t, "f closes out", r)
	answers(t, "asked", asked, 2)
	looks(t, "f closes out", out, left(3, 1))
	in = chanOf[int](t, r, 3)
	puts(t, "in", in, 1)
	puts(t, "in", in, 2)
	b := collectOf(t, r, pipeOf(t, r, in, func(x int) int {
		in.Close()
		return x
	}, 0))
	ends(t, "f closes in", r)
	holds(t, "f closes in", b, true, 1, 2)
	pipe, e := Pipe(r, feedOf(t, r, []int{3, 1}, 0), func(n int) *Basket[int] {
		return collectOf(t, r, feedOf(t, r, numbers(0, n), 0))
	}, 4)
	fresh(t, "f begins lines", pipe, e, r, 4)
	ends(t, "f begins lines", r)
	for _, n := range []int{3, 1} {
		b, _, _ := pipe.TryRecv()
		holds(t, "f begins lines", b, true, numbers(0, n)...)
	}
	nothing(t, "f begins lines", pipe)
}

// point is a thing with more than one part.
type point struct {
	x int
	s string
}

// P19.2: pipes between things of different kinds.
func TestPipeKinds(t *testing.T) {
	r := csp.New()
	a := pipeOf(t, r, feedOf(t, r, []int{5, 0, -3}, 1), strconv.Itoa, 0)
	b := pipeOf(t, r, a, func(s string) point { return point{len(s), s} }, 2)
	c := pipeOf(t, r, b, func(p point) []byte { return append([]byte(p.s), byte('0'+p.x)) }, 1)
	d := pipeOf(t, r, c, func(l []byte) error {
		if len(l) == 2 {
			return nil
		}
		return errors.New(string(l))
	}, 0)
	e := pipeOf(t, r, d, func(e error) *string {
		if e == nil {
			return nil
		}
		s := e.Error()
		return &s
	}, 0)
	f := collectOf(t, r, e)
	ends(t, "kinds", r)
	answers(t, "Done", f.Done(), true)
	got := f.List()
	answers(t, "how many", len(got), 3)
	answers(t, "none", got[0] == nil && got[1] == nil, true)
	answers(t, "the last", *got[2], "-32")
}

// P19.3: a task for each of ins, in order, at its own channel.
func TestMergeTasks(t *testing.T) {
	for _, n := range []int{1, 2, 3, 16} {
		r := csp.New()
		var ins []*chans.Chan[int]
		for i := range n {
			ins = append(ins, chanOf[int](t, r, i))
		}
		out := mergeOf(t, r, 64, ins...)
		stands(t, "new", r, numbers(0, n), nil)
		for i := range n {
			looks(t, "ahead", ins[i], empty(i))
			steps(t, "its turn", r, 1)
			looks(t, "behind", ins[i], receiving(i, 1))
			stands(t, "behind", r, numbers(i+1, n-1-i), numbers(0, i+1))
		}
		for i := range n {
			puts(t, "in", ins[n-1-i], n-1-i)
			stands(t, "whose it is", r, []int{n - 1 - i}, slices.DeleteFunc(numbers(0, n), func(x int) bool { return x == n-1-i }))
			steps(t, "told", r, 2)
			gets(t, "out", out, n-1-i)
		}
		for i, c := range ins {
			looks(t, "not the last one", out, empty(64))
			closes(t, "in", c)
			steps(t, "told false", r, 1)
			stands(t, "told false", r, nil, numbers(i+1, n-1-i))
		}
		nothing(t, "the last one", out)
	}
}

// P19.3: things go on as they are, each one's in its order; one that is closed early ends its task alone.
func TestMergeByTurns(t *testing.T) {
	r := csp.New()
	a, b := chanOf[string](t, r, 2), chanOf[string](t, r, 2)
	puts(t, "a", a, "a1")
	puts(t, "b", b, "b1")
	closes(t, "a", a)
	out := mergeOf(t, r, 1, a, b)
	steps(t, "both receive", r, 2)
	looks(t, "both receive", out, empty(1))
	steps(t, "a's", r, 1)
	looks(t, "a's", out, holding(1, 1))
	steps(t, "b's", r, 1)
	looks(t, "b's", out, sending(1, 1))
	steps(t, "a is told true, then false", r, 2)
	stands(t, "a's task is over", r, nil, []int{1})
	looks(t, "a's task is over", out, sending(1, 1))
	gets(t, "a1", out, "a1")
	gets(t, "b1", out, "b1")
	puts(t, "b", b, "b2")
	steps(t, "b2", r, 2)
	gets(t, "b2", out, "b2")
	steps(t, "b waits", r, 1)
	looks(t, "open", out, empty(1))
	closes(t, "b", b)
	steps(t, "b's last", r, 1)
	nothing(t, "b's last", out)
	stands(t, "b's last", r, nil, nil)
}

// P19.3: the same channel twice, and often: each thing comes once.
func TestMergeOfOneOften(t *testing.T) {
	for _, n := range []int{2, 3, 16} {
		for _, size := range []int{0, 1, 64} {
			for _, count := range []int{0, 1, 2, 40} {
				r := csp.New()
				in := feedOf(t, r, numbers(0, count), size)
				b := collectOf(t, r, mergeOf(t, r, size, slices.Repeat([]*chans.Chan[int]{in}, n)...))
				r.Run([]uint64{1, 5, 0, 2}, 1<<20)
				stands(t, "over", r, nil, nil)
				got := b.List()
				slices.Sort(got)
				lists(t, "each once", got, numbers(0, count)...)
				answers(t, "Done", b.Done(), true)
			}
		}
	}
}

// P19.3: of one alone it goes on as a pipe does that changes nothing, turn by turn.
func TestMergeOfOne(t *testing.T) {
	var lines [2][]string
	for i := range lines {
		r := csp.New()
		in := feedOf(t, r, numbers(0, 5), 1)
		var out *chans.Chan[int]
		if i == 0 {
			out = mergeOf(t, r, 2, in)
		} else {
			out = pipeOf(t, r, in, func(x int) int { return x }, 2)
		}
		b := collectOf(t, r, out)
		for n := uint64(0); r.Step(n * 7); n++ {
			lines[i] = append(lines[i], fmt.Sprint(lookAt(in), lookAt(out), b.List(), b.Done(), r.Ready(), r.Parked()))
		}
	}
	lists(t, "a merge of one", lines[0], lines[1]...)
}

// P19.3, R3: the list that is handed in is not changed, and may be changed behind the call.
func TestMergeKeepsItsOwn(t *testing.T) {
	r := csp.New()
	a, b, c := feedOf(t, r, []int{1, 2}, 0), feedOf(t, r, []int{3}, 0), feedOf(t, r, []int{4}, 0)
	whole := []*chans.Chan[int]{a, b, c}
	k := collectOf(t, r, mergeOf(t, r, 0, whole[:2]...))
	lists(t, "it is not changed", whole, a, b, c)
	clear(whole)
	r.Run(nil, 1<<20)
	stands(t, "c's feed waits on", r, nil, []int{2})
	answers(t, "Done", k.Done(), true)
	inOrder(t, "changed", k.List(), []int{1, 2}, []int{3})
}

// P19.3: somebody else closes the new channel: each task is over when its Send is told false, the others go on till then; the last one finds it closed.
func TestMergeIsClosed(t *testing.T) {
	for turns := range 5 {
		r := csp.New()
		a, b := chanOf[int](t, r, 3), chanOf[int](t, r, 3)
		for i := range 3 {
			puts(t, "a", a, i)
		}
		out := mergeOf(t, r, 1, a, b)
		steps(t, "ahead", r, turns)
		sent := out.Len()
		closes(t, "somebody", out)
		r.Run(nil, 99)
		stands(t, fmt.Sprint(turns, ": b's task waits on"), r, nil, []int{1})
		looks(t, "what was sent", out, left(1, sent))
		answers(t, "one was lost", a.Len(), 2-sent)
		puts(t, "b", b, 9)
		puts(t, "b", b, 9)
		r.Run(nil, 99)
		stands(t, fmt.Sprint(turns, ": over"), r, nil, nil)
		looks(t, "the rest", b, holding(3, 1))
		answers(t, "a is open", a.Closed(), false)
		looks(t, "what was sent", out, left(1, sent))
	}
}

// P19.3: somebody else closes the new channel, then the ins.
func TestMergeIsClosedAtLast(t *testing.T) {
	r := csp.New()
	a, b := chanOf[int](t, r, 0), chanOf[int](t, r, 0)
	out := mergeOf(t, r, 0, a, b)
	steps(t, "both wait", r, 2)
	closes(t, "out", out)
	closes(t, "a", a)
	steps(t, "a's", r, 1)
	closes(t, "b", b)
	steps(t, "b's", r, 1)
	stands(t, "over", r, nil, nil)
	nothing(t, "out", out)
}

// P19.3: one task is over by a Send that was told false, the other by in: whoever is last.
func TestMergeEndsInBothWays(t *testing.T) {
	for _, last := range []string{"in", "send"} {
		r, d := csp.New(), &diary{}
		a, b := chanOf[int](t, r, 0), chanOf[int](t, r, 0)
		out := mergeOf(t, r, 0, a, b)
		steps(t, "both wait", r, 2)
		puts(t, "a", a, 1)
		steps(t, "a's Send waits", r, 1)
		closes(t, "out", out)
		if last == "in" {
			steps(t, "a's is over", r, 1)
			stands(t, "a's is over", r, nil, []int{1})
			closes(t, "b", b)
			steps(t, "b's is over", r, 1)
		} else {
			closes(t, "b", b)
			answers(t, "b's is over", r.Step(1), true)
			stands(t, "b's is over", r, []int{0}, nil)
			steps(t, "a's is over", r, 1)
		}
		stands(t, last, r, nil, nil)
		nothing(t, last, out)
		d.reads(t, last)
	}
}

// P19.4: things go by turns, the first one first; all are closed, in order, in the turn in which the task is told that nothing comes any more.
func TestSplitByTurns(t *testing.T) {
	r := csp.New()
	in := chanOf[int](t, r, 7)
	outs := splitOf(t, r, in, 3, 2)
	stands(t, "one task", r, []int{0}, nil)
	looks(t, "ahead", in, empty(7))
	for i := range 7 {
		puts(t, "in", in, i)
	}
	for i := range 6 {
		steps(t, "received", r, 1)
		looks(t, "received", outs[i%3], holding(2, i/3))
		steps(t, "sent", r, 1)
		looks(t, "sent", outs[i%3], holding(2, i/3+1))
		stands(t, "sent", r, []int{0}, nil)
	}
	steps(t, "the seventh", r, 2)
	looks(t, "the seventh", outs[0], sending(2, 1))
	stands(t, "it waits there, though others have been received", r, nil, []int{0})
	gets(t, "1", outs[1], 1)
	stands(t, "it waits there, though others have been received", r, nil, []int{0})
	gets(t, "0", outs[0], 0)
	steps(t, "it waits for more", r, 1)
	looks(t, "it waits for more", in, receiving(7, 1))
	closes(t, "in", in)
	for _, c := range outs {
		answers(t, "open", c.Closed(), false)
	}
	steps(t, "the last turn", r, 1)
	stands(t, "over", r, nil, nil)
	for i, want := range [][]int{{3, 6}, {4}, {2, 5}} {
		for _, x := range want {
			gets(t, "out", outs[i], x)
		}
		nothing(t, "out", outs[i])
	}
}

// watchAll watches all channels; what is told begins with a channel's place.
func watchAll(t *testing.T, d *diary, l []*chans.Chan[int]) {
	t.Helper()
	for i, c := range slices.Backward(l) {
		watch(t, d, fmt.Sprint(i), c)
	}
}

// P19.4: they are closed in order, in one turn: none, some and all of them were handed a thing.
func TestSplitClosesInOrder(t *testing.T) {
	for _, n := range []int{1, 2, 5, 16} {
		for count := range n + 3 {
			r, d := csp.New(), &diary{}
			in := chanOf[int](t, r, 64)
			for i := range count {
				puts(t, "in", in, i)
			}
			outs := splitOf(t, r, in, n, 2)
			r.Run(nil, 999)
			for i, c := range outs {
				for x := i; x < count; x += n {
					gets(t, "out", c, x)
				}
			}
			r.Run(nil, 999)
			stands(t, "it waits", r, nil, []int{0})
			watchAll(t, d, outs)
			closes(t, "in", in)
			d.reads(t, "ahead of its turn")
			steps(t, "its turn", r, 1)
			var want []string
			for i := range n {
				want = append(want, fmt.Sprint(i, " 0 false"))
			}
			d.reads(t, "its turn", want...)
			stands(t, "over", r, nil, nil)
			for _, c := range outs {
				looks(t, "closed", c, spent(2))
			}
		}
	}
}

// P19.4: into one alone it goes on as a pipe does that changes nothing, turn by turn.
func TestSplitIntoOne(t *testing.T) {
	var lines [2][]string
	for i := range lines {
		r := csp.New()
		in := feedOf(t, r, numbers(0, 5), 1)
		var out *chans.Chan[int]
		if i == 0 {
			out = splitOf(t, r, in, 1, 2)[0]
		} else {
			out = pipeOf(t, r, in, func(x int) int { return x }, 2)
		}
		b := collectOf(t, r, out)
		for n := uint64(0); r.Step(n * 7); n++ {
			lines[i] = append(lines[i], fmt.Sprint(lookAt(in), lookAt(out), b.List(), b.Done(), r.Ready(), r.Parked()))
		}
	}
	lists(t, "a split into one", lines[0], lines[1]...)
}

// P19.4: somebody else closes one of the new channels: when its turn comes the Send there is told false, the others are closed, in order, and no more is taken.
func TestSplitIsClosed(t *testing.T) {
	for _, n := range []int{1, 2, 3, 16} {
		for shut := range n {
			what := fmt.Sprintf("%d of %d", shut, n)
			r, d := csp.New(), &diary{}
			in := chanOf[int](t, r, 64)
			outs := splitOf(t, r, in, n, 1)
			closes(t, what, outs[shut])
			for i := range shut {
				puts(t, what, in, i)
			}
			r.Run(nil, 999)
			stands(t, what+": up to there all is well", r, nil, []int{0})
			for i := range shut {
				gets(t, what, outs[i], i)
			}
			puts(t, what, in, 100)
			puts(t, what, in, 101)
			watchAll(t, d, slices.Concat(outs[:shut], outs[shut+1:]))
			steps(t, what+": the Send", r, 1)
			d.reads(t, what+": the Send")
			steps(t, what+": told false", r, 1)
			var want []string
			for i := range n - 1 {
				want = append(want, fmt.Sprint(i, " 0 false"))
			}
			d.reads(t, what, want...)
			stands(t, what+": over", r, nil, nil)
			looks(t, what+": the rest", in, holding(64, 1))
			for _, c := range outs {
				looks(t, what, c, spent(1))
			}
		}
	}
}

// P19.4: the same within a Send that waits.
func TestSplitIsClosedWithin(t *testing.T) {
	r, d := csp.New(), &diary{}
	in := feedOf(t, r, numbers(1, 9), 9)
	outs := splitOf(t, r, in, 3, 0)
	r.Run(nil, 999)
	gets(t, "1", outs[0], 1)
	r.Run(nil, 999)
	looks(t, "2 waits", outs[1], sending(0, 1))
	watch(t, d, "2", outs[2])
	watch(t, d, "0", outs[0])
	closes(t, "somebody", outs[1])
	d.reads(t, "ahead of its turn")
	steps(t, "its turn", r, 1)
	d.reads(t, "its turn", "0 0 false", "2 0 false")
	stands(t, "over", r, nil, nil)
	looks(t, "the rest", in, left(9, 7))
	for _, c := range outs {
		nothing(t, "over", c)
	}
}

// P19.4: somebody else closes some of the new channels, then in: the others are closed, in order.
func TestSplitIsClosedAtLast(t *testing.T) {
	for mask := range 16 {
		r, d := csp.New(), &diary{}
		in := chanOf[int](t, r, 1)
		outs := splitOf(t, r, in, 4, 3)
		steps(t, "it waits", r, 1)
		var open []*chans.Chan[int]
		for i, c := range outs {
			if mask>>i&1 == 1 {
				closes(t, "somebody", c)
			} else {
				open = append(open, c)
			}
		}
		watchAll(t, d, open)
		closes(t, "in", in)
		steps(t, "its turn", r, 1)
		var want []string
		for i := range open {
			want = append(want, fmt.Sprint(i, " 0 false"))
		}
		d.reads(t, "its turn", want...)
		stands(t, "over", r, nil, nil)
		for _, c := range outs {
			looks(t, "over", c, spent(3))
		}
	}
}

// P19.4: whoever is told that one of them is closed closes another one at once.
func TestSplitIsClosedMeanwhile(t *testing.T) {
	r, d := csp.New(), &diary{}
	in := chanOf[int](t, r, 1)
	outs := splitOf(t, r, in, 3, 0)
	watch(t, d, "1", outs[1])
	watch(t, d, "2", outs[2])
	e := outs[0].WaitRecv(chans.NewTicket(func() { closes(t, "meanwhile", outs[2]) }), func(int, bool) { d.note("0") })
	answers(t, "WaitRecv", e, api.OK)
	closes(t, "in", in)
	ends(t, "over", r)
	d.reads(t, "the order", "0", "2 0 false", "1 0 false")
}

// P19.4, R3: the list that is answered may be changed; two answers share nothing.
func TestSplitKeepsItsOwn(t *testing.T) {
	r := csp.New()
	in := feedOf(t, r, numbers(0, 6), 0)
	l := splitOf(t, r, in, 2, 3)
	a, b := l[0], l[1]
	l[0], l[1] = chanOf[int](t, r, 3), nil
	l = append(l, l[0])
	ends(t, "changed", r)
	for i := range 3 {
		gets(t, "a", a, 2*i)
		gets(t, "b", b, 2*i+1)
	}
	nothing(t, "a", a)
	nothing(t, "b", b)
	looks(t, "what was put into the list", l[2], empty(3))
}

// P19.5: each thing is laid into the basket in the turn in which it was told; it is done in the turn in which nothing comes any more.
func TestCollectByTurns(t *testing.T) {
	r := csp.New()
	in := chanOf[string](t, r, 2)
	b := collectOf(t, r, in)
	stands(t, "new", r, []int{0}, nil)
	looks(t, "new", in, empty(2))
	puts(t, "a", in, "a")
	holds(t, "ahead", b, false)
	steps(t, "received", r, 1)
	holds(t, "received", b, false)
	looks(t, "received", in, empty(2))
	steps(t, "told", r, 1)
	holds(t, "told", b, false, "a")
	looks(t, "it waits", in, receiving(2, 1))
	stands(t, "it waits", r, nil, []int{0})
	puts(t, "b", in, "b")
	puts(t, "a", in, "a")
	puts(t, "c", in, "c")
	closes(t, "in", in)
	holds(t, "ahead", b, false, "a")
	steps(t, "b", r, 1)
	holds(t, "b", b, false, "a", "b")
	steps(t, "a", r, 1)
	holds(t, "a", b, false, "a", "b", "a")
	steps(t, "c", r, 1)
	holds(t, "c", b, false, "a", "b", "a", "c")
	holds(t, "not yet", b, false, "a", "b", "a", "c")
	steps(t, "the end", r, 1)
	holds(t, "the end", b, true, "a", "b", "a", "c")
	stands(t, "the end", r, nil, nil)
	holds(t, "for ever", b, true, "a", "b", "a", "c")
}

// P19.5: of a channel that was closed ahead, with things in it and without.
func TestCollectOfClosed(t *testing.T) {
	for count := range 5 {
		r := csp.New()
		in := chanOf[int](t, r, 64)
		for i := range count {
			puts(t, "in", in, i)
		}
		closes(t, "in", in)
		b := collectOf(t, r, in)
		steps(t, "the things", r, count+1)
		holds(t, "the things", b, false, numbers(0, count)...)
		steps(t, "the end", r, 1)
		holds(t, "the end", b, true, numbers(0, count)...)
		stands(t, "the end", r, nil, nil)
	}
}

// P19.5: a thing is in the basket ahead of whatever happens when the task receives the next one.
func TestCollectAheadOfMore(t *testing.T) {
	r, d := csp.New(), &diary{}
	in := chanOf[int](t, r, 0)
	b := collectOf(t, r, in)
	steps(t, "it waits", r, 1)
	puts(t, "1", in, 1)
	e := in.WaitSend(2, chans.NewTicket(func() { d.note("%v", b.List()) }), func(bool) {})
	answers(t, "WaitSend", e, api.OK)
	steps(t, "told 1, and received 2", r, 1)
	d.reads(t, "when 2 is received", "[1]")
	steps(t, "told 2", r, 1)
	holds(t, "told 2", b, false, 1, 2)
}

// P19.5: two baskets of one channel share what comes.
func TestCollectTwice(t *testing.T) {
	r := csp.New()
	in := feedOf(t, r, numbers(0, 9), 1)
	a, b := collectOf(t, r, in), collectOf(t, r, in)
	r.Run([]uint64{0, 2, 1}, 999)
	stands(t, "over", r, nil, nil)
	answers(t, "Done", a.Done() && b.Done(), true)
	both := append(a.List(), b.List()...)
	slices.Sort(both)
	lists(t, "each once", both, numbers(0, 9)...)
	answers(t, "not one alone", len(a.List())*len(b.List()) > 0, true)
}

// P19.5, R3: what List answers may be changed; no two answers share anything, spare room neither.
func TestListIsNew(t *testing.T) {
	r := csp.New()
	in := chanOf[int](t, r, 64)
	b := collectOf(t, r, in)
	var earlier [][]int
	for i := range 20 {
		puts(t, "in", in, i)
		r.Run(nil, 9)
		l := b.List()
		lists(t, "List", l, numbers(0, i+1)...)
		other := b.List()
		l = l[:cap(l)]
		for k := range l {
			l[k] = -1
		}
		lists(t, "the other one", other, numbers(0, i+1)...)
		earlier = append(earlier, other)
	}
	for i, l := range earlier {
		lists(t, "an earlier one", l, numbers(0, i+1)...)
	}
	lists(t, "List", b.List(), numbers(0, 20)...)
}

// R5: a basket that is none, or that nobody made, holds nothing, and is not done: a copy of one that is, too.
func TestNoBasket(t *testing.T) {
	r := csp.New()
	b := collectOf(t, r, feedOf(t, r, []int{1, 2}, 2))
	ends(t, "over", r)
	was := *b
	for name, none := range map[string]*Basket[int]{"nil": nil, "a zero": {}, "a copy": &was} {
		answers(t, name, none.List() == nil, true)
		answers(t, name, none.Done(), false)
	}
	holds(t, "the one that was copied", b, true, 1, 2)
}
