package flow

import (
	"fmt"
	"runtime"
	"slices"
	"strconv"
	"testing"
	"weak"

	"conduit/api"
	"conduit/chans"
	"conduit/csp"
)

// everyPick lets tasks go on by all rows of picks that there are; it tells how many.
func everyPick(begin func() (*csp.Runtime, func(picks []uint64))) int {
	var picks []uint64
	for count := 1; ; count++ {
		r, end := begin()
		var ready []uint64
		for n := len(r.Ready()); n > 0; n = len(r.Ready()) {
			if len(ready) == len(picks) {
				picks = append(picks, 0)
			}
			r.Step(picks[len(ready)])
			ready = append(ready, uint64(n))
		}
		end(picks)
		for last := len(picks) - 1; ; last-- {
			if last < 0 {
				return count
			}
			if picks[last]++; picks[last] < ready[last] {
				picks = picks[:last+1]
				break
			}
		}
	}
}

// tryEveryPick goes through all rows of picks of a pipeline, which are at least so many: behind each its basket is done, nobody waits any more, and end looks at what was collected.
func tryEveryPick[T any](t *testing.T, what string, least int, begin func(r *csp.Runtime) *Basket[T], end func(what string, got []T)) {
	t.Run(what, func(t *testing.T) {
		t.Parallel()
		tried := everyPick(func() (*csp.Runtime, func(picks []uint64)) {
			r := csp.New()
			b := begin(r)
			return r, func(picks []uint64) {
				what := fmt.Sprint("picks ", picks)
				stands(t, what, r, nil, nil)
				answers(t, what+": Done", b.Done(), true)
				end(what, b.List())
			}
		})
		if tried < least {
			t.Errorf("%s: %d rows of picks alone", what, tried)
		}
	})
}

// P19.6: one line alone: all that was fed, in order.
func TestEveryPickOfOneLine(t *testing.T) {
	for size := range 4 {
		for count := range 5 {
			tryEveryPick(t, fmt.Sprintf("feed %d, size %d", count, size), 1, func(r *csp.Runtime) *Basket[int] {
				return collectOf(t, r, feedOf(t, r, numbers(0, count), size))
			}, func(what string, got []int) { lists(t, what, got, numbers(0, count)...) })
		}
	}
	for _, sizes := range [][2]int{{0, 0}, {1, 0}, {0, 1}, {2, 2}} {
		tryEveryPick(t, fmt.Sprintf("pipe, sizes %v", sizes), 100, func(r *csp.Runtime) *Basket[string] {
			return collectOf(t, r, pipeOf(t, r, feedOf(t, r, numbers(0, 2), sizes[0]), strconv.Itoa, sizes[1]))
		}, func(what string, got []string) { lists(t, what, got, "0", "1") })
	}
	tryEveryPick(t, "two pipes", 100, func(r *csp.Runtime) *Basket[int] {
		a := pipeOf(t, r, feedOf(t, r, []int{7}, 0), strconv.Itoa, 1)
		return collectOf(t, r, pipeOf(t, r, a, func(s string) int { return len(s) }, 0))
	}, func(what string, got []int) { lists(t, what, got, 1) })
}

// filled is a closed channel with things in it.
func filled(t *testing.T, r *csp.Runtime, things ...int) *chans.Chan[int] {
	t.Helper()
	c := chanOf[int](t, r, len(things))
	for _, x := range things {
		puts(t, "filled", c, x)
	}
	closes(t, "filled", c)
	return c
}

// P19.6: many lines: each thing once, each line's things in its order.
func TestEveryPickOfManyLines(t *testing.T) {
	tryEveryPick(t, "two lines", 1000, func(r *csp.Runtime) *Basket[int] {
		return collectOf(t, r, mergeOf(t, r, 0, filled(t, r, 1, 2), filled(t, r, 3)))
	}, func(what string, got []int) { inOrder(t, what, got, []int{1, 2}, []int{3}) })
	tryEveryPick(t, "split and merge", 1000, func(r *csp.Runtime) *Basket[int] {
		b := collectOf(t, r, mergeOf(t, r, 1, splitOf(t, r, filled(t, r, 1, 2, 3), 2, 0)...))
		steps(t, "ahead", r, 9)
		return b
	}, func(what string, got []int) { inOrder(t, what, got, []int{1, 3}, []int{2}) })
	tryEveryPick(t, "twice the same", 1000, func(r *csp.Runtime) *Basket[int] {
		in := filled(t, r, 1, 2)
		return collectOf(t, r, mergeOf(t, r, 0, in, in))
	}, func(what string, got []int) { inOrder(t, what, got, []int{1}, []int{2}) })
	tryEveryPick(t, "a pipe in one of two lines", 1000, func(r *csp.Runtime) *Basket[int] {
		return collectOf(t, r, mergeOf(t, r, 0, filled(t, r), pipeOf(t, r, filled(t, r, 2), double, 0)))
	}, func(what string, got []int) { inOrder(t, what, got, []int{4}) })
	tryEveryPick(t, "a feed beside", 1000, func(r *csp.Runtime) *Basket[int] {
		b := collectOf(t, r, mergeOf(t, r, 1, filled(t, r, 1), feedOf(t, r, []int{2}, 0)))
		steps(t, "ahead", r, 3)
		return b
	}, func(what string, got []int) { inOrder(t, what, got, []int{1}, []int{2}) })
}

// P19.1 to P19.6: somebody closes a channel of a line at any time: what comes out is a beginning of what was fed, and the basket is done.
func TestEveryPickWithClose(t *testing.T) {
	for shut := range 2 {
		tried := everyPick(func() (*csp.Runtime, func(picks []uint64)) {
			r := csp.New()
			a := feedOf(t, r, []int{1, 2}, 0)
			b := pipeOf(t, r, a, double, 1)
			k := collectOf(t, r, b)
			_, e := r.Spawn(func(*csp.Task) { []*chans.Chan[int]{a, b}[shut].Close() })
			answers(t, "Spawn", e, api.OK)
			return r, func(picks []uint64) {
				what := fmt.Sprint("picks ", picks)
				answers(t, what+": Done", k.Done(), true)
				got := k.List()
				lists(t, what, got, []int{2, 4}[:len(got)]...)
				a.Close()
				r.Run(nil, 99)
				stands(t, what, r, nil, nil)
				holds(t, what, k, true, got...)
			}
		})
		if tried < 1000 {
			t.Errorf("%d rows of picks alone", tried)
		}
	}
}

// parcel is a thing on its way: where it was fed, the how manieth it is there, and by which ways it has come.
type parcel struct {
	feed, no int
	way      string
}

// marked is a pipe that notes in each parcel that it came by it.
func marked(t *testing.T, r *csp.Runtime, in *chans.Chan[parcel], mark string, size int) *chans.Chan[parcel] {
	t.Helper()
	return pipeOf(t, r, in, func(x parcel) parcel {
		x.way += mark + " "
		return x
	}, size)
}

// drawnPipeline is one at random: feeds, which are split, marked and merged, and at last are one line; it tells how many were fed by each.
func drawnPipeline(t *testing.T, r *csp.Runtime, next func(int) int) (*Basket[parcel], []int) {
	t.Helper()
	size := func() int { return []int{0, 0, 1, 2, 5, 64}[next(6)] }
	var open []*chans.Chan[parcel]
	var counts []int
	for feed := range 1 + next(4) {
		var l []parcel
		for no := range []int{0, 1, 5, 20, 60}[next(5)] {
			l = append(l, parcel{feed: feed, no: no})
		}
		counts = append(counts, len(l))
		open = append(open, feedOf(t, r, l, size()))
	}
	take := func() *chans.Chan[parcel] {
		i := next(len(open))
		c := open[i]
		open = slices.Delete(open, i, i+1)
		return c
	}
	for i := range 2 + next(8) {
		mark := fmt.Sprint(i)
		switch k := next(3); {
		case k == 0:
			open = append(open, marked(t, r, take(), mark, size()))
		case k == 1 && len(open) < 12:
			for j, c := range splitOf(t, r, take(), 1+next(4), size()) {
				open = append(open, marked(t, r, c, fmt.Sprint(mark, "/", j), size()))
			}
		default:
			var ins []*chans.Chan[parcel]
			for range 1 + next(len(open)) {
				ins = append(ins, marked(t, r, take(), fmt.Sprint(mark, "+", len(ins)), size()))
			}
			open = append(open, mergeOf(t, r, size(), ins...))
		}
	}
	for i, c := range open {
		open[i] = marked(t, r, c, fmt.Sprint("last ", i), size())
	}
	return collectOf(t, r, mergeOf(t, r, size(), open...)), counts
}

// runDrawn lets a drawn pipeline go on by drawn picks, till nobody can; it tells what was collected.
func runDrawn(t *testing.T, seed uint64) []parcel {
	t.Helper()
	r, next := csp.New(), row(seed)
	b, counts := drawnPipeline(t, r, next)
	for r.Step(uint64(next(100000))) {
	}
	what := fmt.Sprint("seed ", seed)
	stands(t, what, r, nil, nil)
	answers(t, what+": Done", b.Done(), true)
	got := b.List()
	seen, last := map[[2]int]bool{}, map[string]int{}
	for _, x := range got {
		answers(t, what+": came twice", seen[[2]int{x.feed, x.no}], false)
		seen[[2]int{x.feed, x.no}] = true
		line := fmt.Sprint(x.feed, " by ", x.way)
		answers(t, fmt.Sprint(what, ": ", x, " is in its order"), x.no >= last[line], true)
		last[line] = x.no + 1
	}
	sum := 0
	for _, count := range counts {
		sum += count
	}
	answers(t, what+": how many", len(got), sum)
	return got
}

// P19.6: whole pipelines, by drawn picks: all that is fed comes out once, each line's things in its order. R4: the same picks give the same.
func TestDrawnPipelines(t *testing.T) {
	t.Parallel()
	for seed := range uint64(150) {
		lists(t, fmt.Sprint("seed ", seed, " again"), runDrawn(t, seed), runDrawn(t, seed)...)
	}
}

// P19.6: one long line, by drawn picks, keeps its order.
func TestDrawnLine(t *testing.T) {
	t.Parallel()
	for seed := range uint64(40) {
		r, next := csp.New(), row(seed)
		things := numbers(0, next(200))
		c := feedOf(t, r, things, next(3))
		for range next(20) {
			c = pipeOf(t, r, c, func(x int) int { return x + 1000 }, next(65))
			c = mergeOf(t, r, next(3), c)
			c = splitOf(t, r, c, 1, next(3))[0]
			c = pipeOf(t, r, c, func(x int) int { return x - 1000 }, next(3))
		}
		b := collectOf(t, r, c)
		for r.Step(uint64(next(100000))) {
		}
		stands(t, "over", r, nil, nil)
		holds(t, fmt.Sprint("seed ", seed), b, true, things...)
	}
}

// heavy is something whose memory is let go as soon as nobody keeps it.
type heavy struct {
	_ [64]int
}

// kept tells how many of these are still kept by somebody.
func kept(seen []weak.Pointer[heavy]) int {
	runtime.GC()
	count := 0
	for _, w := range seen {
		if w.Value() != nil {
			count++
		}
	}
	return count
}

// heap is new things, and how to ask which of them are kept.
func heap(count int) ([]*heavy, []weak.Pointer[heavy]) {
	var l []*heavy
	var seen []weak.Pointer[heavy]
	for range count {
		h := &heavy{}
		l, seen = append(l, h), append(seen, weak.Make(h))
	}
	return l, seen
}

// What a Feed has sent is kept by nobody when it was received and the task has gone on; nothing is when it was told false.
func TestFeedLetsGo(t *testing.T) {
	r := csp.New()
	l, seen := heap(5)
	c := feedOf(t, r, l, 0)
	l = nil
	for i := range 3 {
		steps(t, "a Send", r, 1)
		answers(t, "what is kept", kept(seen), 5-i)
		_, ok, _ := c.TryRecv()
		answers(t, "TryRecv", ok, true)
	}
	closes(t, "c", c)
	ends(t, "over", r)
	answers(t, "what is kept", kept(seen), 0)
	runtime.KeepAlive([]any{r, c})
}

// What a line has passed on is kept by nobody who passed it; what a pipe's function holds is let go with its task.
func TestLinesLetGo(t *testing.T) {
	r := csp.New()
	in := chanOf[*heavy](t, r, 2)
	f, held := heap(1)
	own := f[0]
	out := pipeOf(t, r, in, func(x *heavy) *heavy {
		runtime.KeepAlive(own)
		return x
	}, 2)
	own, f = nil, nil
	last := mergeOf(t, r, 2, splitOf(t, r, out, 2, 2)...)
	var seen []weak.Pointer[heavy]
	for range 5 {
		l, w := heap(1)
		seen = append(seen, w...)
		puts(t, "in", in, l[0])
		l = nil
		r.Run(nil, 99)
		answers(t, "on its way", kept(seen), 1)
		_, ok, _ := last.TryRecv()
		answers(t, "TryRecv", ok, true)
		answers(t, "behind it", kept(seen), 0)
	}
	closes(t, "in", in)
	r.Run(nil, 99)
	answers(t, "what f held", kept(held), 0)
	nothing(t, "last", last)
	runtime.KeepAlive([]any{r, in, out, last})
}

// A basket that nobody asks any more is kept by nobody when it is done.
func TestBasketIsLetGo(t *testing.T) {
	r := csp.New()
	l, seen := heap(4)
	in := feedOf(t, r, l, 1)
	l = nil
	b := collectOf(t, r, in)
	ends(t, "over", r)
	answers(t, "it is asked yet", kept(seen), 4)
	answers(t, "how many", len(b.List()), 4)
	b = nil
	answers(t, "it is asked no more", kept(seen), 0)
	runtime.KeepAlive([]any{r, in})
}

// However many things go down a line, each costs little.
func TestManyThings(t *testing.T) {
	const count = 100000
	r := csp.New()
	l := splitOf(t, r, feedOf(t, r, numbers(0, count), 0), 2, 1)
	b := collectOf(t, r, mergeOf(t, r, 64, pipeOf(t, r, l[0], double, 3), l[1]))
	r.Run([]uint64{3, 1, 4, 1, 5, 9, 2, 6}, 1<<30)
	stands(t, "over", r, nil, nil)
	answers(t, "Done", b.Done(), true)
	answers(t, "how many", len(b.List()), count)
}
