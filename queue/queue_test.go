package queue

import (
	"fmt"
	"math"
	"runtime"
	"slices"
	"testing"
	"weak"
)

// holds says that just these things wait.
func holds[T comparable](t *testing.T, what string, q *Queue[T], want ...T) {
	t.Helper()
	if got := q.List(); !slices.Equal(got, want) {
		t.Fatalf("%s: %.300s, want %.300s", what, fmt.Sprint(got), fmt.Sprint(want))
	}
	if got := q.Len(); got != len(want) {
		t.Fatalf("%s: Len is %d, want %d", what, got, len(want))
	}
}

// is says that a call answers this thing.
func is[T comparable](t *testing.T, what string, want T) func(x T, ok bool) {
	t.Helper()
	return func(x T, ok bool) {
		t.Helper()
		if x != want || !ok {
			t.Fatalf("%s: %v, %v, want %v, true", what, x, ok, want)
		}
	}
}

// none says that a call answers nothing.
func none[T comparable](t *testing.T, what string) func(x T, ok bool) {
	t.Helper()
	return func(x T, ok bool) {
		t.Helper()
		var zero T
		if x != zero || ok {
			t.Fatalf("%s: %v, %v, want nothing", what, x, ok)
		}
	}
}

// dropped says how many a Drop must answer.
func dropped(t *testing.T, what string, got, want int) {
	t.Helper()
	if got != want {
		t.Fatalf("%s: %d went, want %d", what, got, want)
	}
}

func all[T any](T) bool { return true }

func nobody[T any](T) bool { return false }

// numbers are 0, 1, and so on.
func numbers(count int) []int {
	list := make([]int, count)
	for i := range list {
		list[i] = i
	}
	return list
}

// turned is a queue of 0, 1, and so on, ahead of which so many things have come and gone.
func turned(count, ahead int) *Queue[int] {
	q := Of[int]()
	for range ahead {
		q.Push(-1)
		// A thing behind it, so that the line is not empty in between.
		q.Push(-2)
		q.Pop()
		q.Pop()
	}
	for i := range count {
		q.Push(i)
	}
	return q
}

func TestExamples(t *testing.T) {
	q := Of(1, 2)
	q.Push(3)
	is(t, "Pop", 1)(q.Pop())
	is(t, "At(1)", 3)(q.At(1))
	is(t, "Take(0)", 2)(q.Take(0))
	holds(t, "one left", q, 3)
	dropped(t, "above 2", q.Drop(func(x int) bool { return x > 2 }), 1)
	holds(t, "empty", q)
	none[int](t, "Pop of none")(q.Pop())
}

// P13.1: Of is handed things one by one, or a list of them.
func TestOf(t *testing.T) {
	holds(t, "nothing", Of[int]())
	holds(t, "no list", Of([]int(nil)...))
	holds(t, "an empty list", Of([]int{}...))
	holds(t, "one", Of(7), 7)
	holds(t, "a nought", Of(0), 0)
	holds(t, "some", Of(3, 1, 2, 3, 3), 3, 1, 2, 3, 3)
	holds(t, "texts", Of("b", "", "a"), "b", "", "a")
	holds(t, "structs", Of(point{x: 1}, point{}, point{name: "p"}), point{x: 1}, point{}, point{name: "p"})
	for _, count := range []int{2, 3, 4, 15, 16, 17, 255, 256, 257, 1000, 4096, 100000} {
		holds(t, fmt.Sprint(count), Of(numbers(count)...), numbers(count)...)
	}
	a, b := Of[int](), Of[int]()
	a.Push(1)
	holds(t, "another one", b)
}

// P13.1, P13.2, P13.3: an empty queue, a new one and one from which all has gone.
func TestEmpty(t *testing.T) {
	popped, took, drained := Of("a"), Of("a", "b"), Of("a", "b", "c")
	popped.Pop()
	took.Take(1)
	took.Take(0)
	drained.Drop(all)
	for name, q := range map[string]*Queue[string]{"new": Of[string](), "popped": popped, "took": took, "drained": drained} {
		for range 3 {
			holds(t, name, q)
			none[string](t, name)(q.Pop())
			for _, i := range []int{math.MinInt, -1, 0, 1, math.MaxInt} {
				none[string](t, name)(q.At(i))
				none[string](t, name)(q.Take(i))
			}
			asked := 0
			dropped(t, name, q.Drop(func(string) bool { asked++; return true }), 0)
			dropped(t, name, q.Drop(nil), 0)
			if asked != 0 {
				t.Errorf("%s: asked of %d things", name, asked)
			}
		}
		q.Push("x")
		holds(t, name, q, "x")
		is(t, name, "x")(q.At(0))
		is(t, name, "x")(q.Pop())
		holds(t, name, q)
	}
}

// P13.1, P13.2, P13.3: a queue of one thing.
func TestOne(t *testing.T) {
	for ahead := range 10 {
		for name, out := range map[string]func(q *Queue[int]) (int, bool){
			"Pop":  func(q *Queue[int]) (int, bool) { return q.Pop() },
			"Take": func(q *Queue[int]) (int, bool) { return q.Take(0) },
			"Drop": func(q *Queue[int]) (int, bool) { return 0, q.Drop(all) == 1 },
		} {
			q := turned(1, ahead)
			holds(t, name, q, 0)
			is(t, name, 0)(q.At(0))
			none[int](t, name)(q.At(1))
			none[int](t, name)(q.Take(1))
			none[int](t, name)(q.Take(-1))
			dropped(t, name, q.Drop(nobody), 0)
			is(t, name, 0)(out(q))
			holds(t, name, q)
		}
	}
}

// P13.1: what is pushed stands behind all others, whatever it is; what is popped is the first.
func TestPushPop(t *testing.T) {
	q := Of[string]()
	var want []string
	for i := range 700 {
		x := []string{"", "a", "\x00", "\xff\xfe", fmt.Sprint(i)}[i%5]
		q.Push(x)
		want = append(want, x)
		holds(t, "pushed", q, want...)
	}
	for len(want) > 0 {
		is(t, "popped", want[0])(q.Pop())
		want = want[1:]
		holds(t, "popped", q, want...)
	}
	none[string](t, "none")(q.Pop())
}

// P13.2: every place of short lines, and those that no line has, wherever in its room the line begins.
func TestPlaces(t *testing.T) {
	for count := range 12 {
		places := []int{math.MinInt, math.MinInt + 1, math.MinInt32, -count - 1, -count, -2, -1, count, count + 1, 2 * count, 2*count + 1, math.MaxInt32, 1 << 32, math.MaxInt - 1, math.MaxInt}
		for ahead := range 2*count + 6 {
			q := turned(count, ahead)
			for _, i := range places {
				if i >= 0 && i < count {
					continue
				}
				none[int](t, fmt.Sprint("At ", i))(q.At(i))
				none[int](t, fmt.Sprint("Take ", i))(q.Take(i))
			}
			holds(t, "nothing was taken", q, numbers(count)...)
			for i := range count {
				is(t, fmt.Sprint("At ", i), i)(q.At(i))
				holds(t, "At takes nothing", q, numbers(count)...)
				one := turned(count, ahead)
				is(t, fmt.Sprint("Take ", i), i)(one.Take(i))
				holds(t, fmt.Sprint("behind Take ", i), one, slices.Delete(numbers(count), i, i+1)...)
				one.Push(99)
				holds(t, "pushed behind it", one, append(slices.Delete(numbers(count), i, i+1), 99)...)
			}
		}
	}
}

// P13.2: all orders in which five things can be taken.
func TestEveryOrder(t *testing.T) {
	var try func(ahead int, places []int)
	try = func(ahead int, places []int) {
		q, want := turned(5, ahead), numbers(5)
		for _, i := range places {
			is(t, fmt.Sprint(places), want[i])(q.Take(i))
			want = slices.Delete(want, i, i+1)
		}
		holds(t, fmt.Sprint(places), q, want...)
		for i := range want {
			try(ahead, append(places[:len(places):len(places)], i))
		}
	}
	for ahead := range 16 {
		try(ahead, nil)
	}
}

// P13.3: every choice of those that go, out of short lines, wherever in its room the line begins.
func TestDropEveryChoice(t *testing.T) {
	for count := range 9 {
		for ahead := range count + 4 {
			for mask := range uint64(1) << count {
				q := turned(count, ahead)
				gone, asked := asker[int](mask)
				var left []int
				for i := range count {
					if mask>>i&1 == 0 {
						left = append(left, i)
					}
				}
				what := fmt.Sprintf("%b of %d", mask, count)
				dropped(t, what, q.Drop(gone), count-len(left))
				if !slices.Equal(*asked, numbers(count)) {
					t.Fatalf("%s: asked %v", what, *asked)
				}
				holds(t, what, q, left...)
				q.Push(99)
				holds(t, what+", and a push", q, append(left, 99)...)
			}
		}
	}
}

// P13.3: none, all, the first, the last, every other one of a long line; and a nil gone.
func TestDropMany(t *testing.T) {
	const count = 1000
	cases := []struct {
		name string
		gone func(x int) bool
		want int
	}{
		{"nil", nil, 0},
		{"none", nobody, 0},
		{"all", all, count},
		{"the first", func(x int) bool { return x == 0 }, 1},
		{"the last", func(x int) bool { return x == count-1 }, 1},
		{"the midst", func(x int) bool { return x > 0 && x < count-1 }, count - 2},
		{"every other one", func(x int) bool { return x%2 == 1 }, count / 2},
		{"the other ones", func(x int) bool { return x%2 == 0 }, count / 2},
	}
	for _, c := range cases {
		q := turned(count, 17)
		var asked []int
		gone := c.gone
		if gone != nil {
			gone = func(x int) bool { asked = append(asked, x); return c.gone(x) }
		}
		dropped(t, c.name, q.Drop(gone), c.want)
		var left []int
		for _, x := range numbers(count) {
			if c.gone == nil || !c.gone(x) {
				left = append(left, x)
			}
		}
		holds(t, c.name, q, left...)
		if c.gone != nil && !slices.Equal(asked, numbers(count)) {
			t.Errorf("%s: not each one was asked once and in order", c.name)
		}
		// What went is not asked again.
		asked = nil
		q.Drop(gone)
		if c.gone != nil && !slices.Equal(asked, left) {
			t.Errorf("%s: asked again: %d, want %d", c.name, len(asked), len(left))
		}
	}
}

// P13.3: things that are alike are asked one by one, and go one by one.
func TestDropAlike(t *testing.T) {
	q := Of("a", "a", "a", "a")
	asked := 0
	dropped(t, "the second", q.Drop(func(string) bool { asked++; return asked == 2 }), 1)
	holds(t, "three", q, "a", "a", "a")
	if asked != 4 {
		t.Errorf("%d asked", asked)
	}
	// A thing that is unlike itself goes as any other.
	odd := Of(math.NaN(), 1, math.NaN())
	dropped(t, "not numbers", odd.Drop(func(x float64) bool { return x != x }), 2)
	holds(t, "a number", odd, 1)
}

// P13.1 to P13.3: nothing is asked of things but that they are of one type.
func TestKinds(t *testing.T) {
	lists := Of([]byte("a"), nil, []byte{})
	lists.Push([]byte("b"))
	if x, ok := lists.Take(3); string(x) != "b" || !ok {
		t.Error(x, ok)
	}
	if x, ok := lists.Take(3); x != nil || ok {
		t.Error(x, ok)
	}
	calls := 0
	tasks := Of(func() { calls++ })
	tasks.Push(nil)
	if f, ok := tasks.Pop(); f == nil || !ok {
		t.Error(ok)
	} else {
		f()
	}
	if f, ok := tasks.Pop(); f != nil || !ok {
		t.Error("a nil function is a thing, too")
	}
	if f, ok := tasks.Pop(); f != nil || ok || calls != 1 {
		t.Error(ok, calls)
	}
	nothings := Of(struct{}{}, struct{}{})
	nothings.Push(struct{}{})
	dropped(t, "nothings", nothings.Drop(all), 3)
	arrays := Of([2]int{1, 2}, [2]int{3, 4})
	is(t, "arrays", [2]int{3, 4})(arrays.Take(1))
	none[[2]int](t, "arrays")(arrays.At(1))
	errs := Of[error](nil, fmt.Errorf("x"))
	if x, ok := errs.Pop(); x != nil || !ok {
		t.Error(x, ok)
	}
	inner := Of(1)
	queues := Of(inner)
	inner.Push(2)
	if q, ok := queues.Pop(); q != inner || !ok || q.Len() != 2 {
		t.Error("a queue in a queue is the same one")
	}
	points := Of(pointOf(1), pointOf(2))
	if p, ok := points.Take(1); p.x != 2 || p.y != -2 || p.name != "2" || *p.near != 2 || !ok {
		t.Error(p, ok)
	}
	none[point](t, "points")(points.Take(1))
}

// P13.4: all rows of 14 pushes and pops.
func TestOrder(t *testing.T) {
	const calls = 14
	for mask := range 1 << calls {
		q := Of[int]()
		in, out := 0, 0
		for i := range calls {
			if mask>>i&1 == 1 {
				in++
				q.Push(in)
			} else if x, ok := q.Pop(); ok {
				out++
				if x != out {
					t.Fatalf("%b: %d came out, want %d", mask, x, out)
				}
			} else if in != out || x != 0 {
				t.Fatalf("%b: nothing came out (%d), with %d in and %d out", mask, x, in, out)
			}
		}
		if q.Len() != in-out {
			t.Fatalf("%b: Len is %d, with %d in and %d out", mask, q.Len(), in, out)
		}
	}
}

// P13.4: lines of any length that stay so long for many pushes and pops, and lines that swell and shrink.
func TestLongOrder(t *testing.T) {
	for _, length := range []int{0, 1, 2, 3, 7, 8, 63, 64, 65, 1000} {
		q := Of[int]()
		in, out := 0, 0
		pop := func() {
			is(t, fmt.Sprint("a line of ", length), out)(q.Pop())
			out++
		}
		for range 5 {
			for q.Len() < length {
				q.Push(in)
				in++
			}
			for range 3*length + 3 {
				q.Push(in)
				in++
				pop()
			}
			for q.Len() > length/7 {
				pop()
			}
			if fault := untidy(q); fault != "" {
				t.Fatalf("a line of %d: %s", length, fault)
			}
		}
	}
}

// A line of many things, from which they go at the head, at the end and out of the midst; it grows again behind it.
func TestMany(t *testing.T) {
	const many = 300000
	q := Of[int]()
	for range 2 {
		for i := range many {
			q.Push(i)
		}
		first, last := 0, many-1
		for first < many/3 {
			is(t, "the head", first)(q.Pop())
			first++
			is(t, "the end", last)(q.Take(q.Len() - 1))
			last--
		}
		midst := q.Len() / 2
		is(t, "the midst", first+midst)(q.Take(midst))
		is(t, "behind it", first+midst+1)(q.At(midst))
		dropped(t, "the rest", q.Drop(all), last-first)
		holds(t, "empty", q)
		if fault := untidy(q); fault != "" {
			t.Fatal(fault)
		}
	}
}

// refusedAll says that a queue tells nothing, takes nothing and asks nobody.
func refusedAll[T comparable](t *testing.T, what string, q *Queue[T], x T) {
	t.Helper()
	for range 2 {
		q.Push(x)
		if q.Len() != 0 || q.List() != nil {
			t.Errorf("%s: %d, %v", what, q.Len(), q.List())
		}
		none[T](t, what)(q.Pop())
		for _, i := range []int{math.MinInt, -1, 0, 1, math.MaxInt} {
			none[T](t, what)(q.At(i))
			none[T](t, what)(q.Take(i))
		}
		dropped(t, what, q.Drop(nil), 0)
		dropped(t, what, q.Drop(func(T) bool { t.Error(what, ": asked"); return true }), 0)
	}
}

// R5: a queue that is nil, or that Of did not answer.
func TestNoQueue(t *testing.T) {
	refusedAll(t, "nil", nil, 1)
	refusedAll(t, "nil", nil, "a")
	refusedAll(t, "nil", nil, pointOf(1))
	refusedAll(t, "not made", &Queue[int]{}, 1)
	refusedAll(t, "not made", new(Queue[string]), "a")
	refusedAll(t, "not made", &Queue[point]{}, pointOf(1))
	refusedAll(t, "not made", &[]Queue[int]{{}}[0], 1)
	over := Of(1, 2)
	*over = Queue[int]{}
	refusedAll(t, "written over", over, 1)
}

// R5: a copy as a value is none that Of answered, and does nothing to what it was copied from.
func TestCopiedAsValue(t *testing.T) {
	q := Of(1, 2, 3)
	c := *q
	refusedAll(t, "a copy", &c, 9)
	holds(t, "what was copied", q, 1, 2, 3)
	// An older copy must not write where a newer thing stands.
	older := *q
	q.Push(4)
	refusedAll(t, "an older copy", &older, 9)
	holds(t, "what was copied, and a push", q, 1, 2, 3, 4)
	is(t, "what was copied", 1)(q.Pop())
	other := Of(7)
	*other = *q
	refusedAll(t, "one written over by another", other, 9)
	holds(t, "the other", q, 2, 3, 4)
}

// The calls that change a queue, each at its head, in its midst, at its end.
func changes() map[string]func(q *Queue[int]) {
	return map[string]func(q *Queue[int]){
		"push":      func(q *Queue[int]) { q.Push(99) },
		"pushes":    func(q *Queue[int]) { q.Push(99); q.Push(98); q.Push(97); q.Push(96) },
		"pop":       func(q *Queue[int]) { q.Pop() },
		"pop push":  func(q *Queue[int]) { q.Pop(); q.Push(99) },
		"take 1":    func(q *Queue[int]) { q.Take(1) },
		"take last": func(q *Queue[int]) { q.Take(q.Len() - 1) },
		"drop all":  func(q *Queue[int]) { q.Drop(all) },
		"drop none": func(q *Queue[int]) { q.Drop(nobody); q.Push(99) },
		"drop odd":  func(q *Queue[int]) { q.Drop(func(x int) bool { return x%2 == 1 }); q.Push(99) },
		"empty":     func(q *Queue[int]) { q.Drop(all); q.Push(99); q.Push(98) },
	}
}

// spare is 0, 1, and so on, with 77 in each of the places of its spare room.
func spare(count, room int) []int {
	list := numbers(room)
	for i := count; i < room; i++ {
		list[i] = 77
	}
	return list[:count]
}

// R3: the list that Of is handed, its spare room too, is neither changed nor kept.
func TestHandedIn(t *testing.T) {
	for count := range 6 {
		for room := count; room < count+5; room++ {
			for name, change := range changes() {
				what := fmt.Sprintf("%d of %d, %s", count, room, name)
				list := spare(count, room)
				q, same := Of(list...), Of(spare(count, room)...)
				change(q)
				change(same)
				if !slices.Equal(list[:room], spare(count, room)[:room]) {
					t.Fatalf("%s: the list is %v", what, list[:room])
				}
				for i := range room {
					list[:room][i] = 55
				}
				holds(t, what, q, same.List()...)
				change(q)
				change(same)
				holds(t, what, q, same.List()...)
			}
		}
	}
}

// R3: two queues of one list are apart.
func TestQueuesApart(t *testing.T) {
	for count := range 6 {
		for room := count; room < count+5; room++ {
			for name, change := range changes() {
				what := fmt.Sprintf("%d of %d, %s", count, room, name)
				list := spare(count, room)
				a, b := Of(list...), Of(list...)
				change(a)
				holds(t, what, b, numbers(count)...)
				want := a.List()
				b.Push(66)
				b.Take(0)
				b.Push(65)
				holds(t, what, a, want...)
			}
		}
	}
}

// R3: a list that was answered is apart from the queue, from what it was made of and from other lists, its spare room too.
func TestHandedOut(t *testing.T) {
	for count := range 7 {
		for ahead := range 4 {
			for name, change := range changes() {
				what := fmt.Sprintf("%d behind %d, %s", count, ahead, name)
				q := turned(count, ahead)
				a, b := q.List(), q.List()
				scribble(a)
				holds(t, what, q, numbers(count)...)
				if !slices.Equal(b, numbers(count)) {
					t.Fatalf("%s: the other list is %v", what, b)
				}
				room := slices.Clone(b[:cap(b)])
				change(q)
				q.Push(44)
				if !slices.Equal(b[:cap(b)], room) {
					t.Fatalf("%s: a list has changed with its queue: %v", what, b[:cap(b)])
				}
				want := q.List()
				scribble(b)
				holds(t, what, q, want...)
				q.Push(45)
				holds(t, what, q, append(want, 45)...)
			}
		}
	}
}

// scribble writes over a list and its spare room.
func scribble(list []int) {
	list = list[:cap(list)]
	for i := range list {
		list[i] = 33
	}
}

// R3: a queue made of a list that another one answered is apart from it.
func TestListOfList(t *testing.T) {
	a := Of(1, 2, 3)
	b := Of(a.List()...)
	a.Pop()
	b.Push(4)
	holds(t, "a", a, 2, 3)
	holds(t, "b", b, 1, 2, 3, 4)
}

// R4: queues with the same past answer the same, whether or not something was asked in between; asking changes nothing.
func TestAskingChangesNothing(t *testing.T) {
	for seed := range uint64(20) {
		thing := func(n int) int { return n + 1 }
		p, quiet := newPair(thing, 3), newPair(thing, 3)
		next := row(seed)
		for step := range 400 {
			c := drawnCall(next, step/100%2 == 0, len(p.model.waiting()))
			for _, fault := range []string{p.do(c), p.unlike(), p.unlike(), quiet.do(c)} {
				if fault != "" {
					t.Fatalf("seed %d, step %d: %s: %s", seed, step, c, fault)
				}
			}
		}
		holds(t, "what was never asked", quiet.queue, p.queue.List()...)
	}
}

// R2: a call that answers false or 0 leaves the queue as it was.
func TestNothingChanges(t *testing.T) {
	for count := range 9 {
		q := turned(count, 3)
		for _, i := range []int{math.MinInt, -count - 1, -1, count, count + 1, math.MaxInt} {
			q.At(i)
			q.Take(i)
			q.Drop(nil)
			q.Drop(nobody)
			holds(t, fmt.Sprint("place ", i, " of ", count), q, numbers(count)...)
		}
		q.Push(count)
		holds(t, "a push behind it", q, numbers(count+1)...)
	}
}

// P13.3: gone is handed the things themselves: what it does to one behind a pointer is done to the one that waits.
func TestDropShares(t *testing.T) {
	a, b := &point{x: 1}, &point{x: 2}
	q := Of(a, b)
	dropped(t, "shared", q.Drop(func(p *point) bool { p.y = 9; return p == a }), 1)
	is(t, "the other", b)(q.Pop())
	if a.y != 9 || b.y != 9 {
		t.Error(*a, *b)
	}
}

// heavy is a thing great enough to be let go by itself.
type heavy struct {
	parts [100]*int
}

// A thing that is gone is kept by nobody, by whichever call it went.
func TestGoneIsNotKept(t *testing.T) {
	for name, out := range map[string]func(q *Queue[*heavy]){
		"pop":       func(q *Queue[*heavy]) { q.Pop(); q.Pop() },
		"take head": func(q *Queue[*heavy]) { q.Take(0); q.Take(0) },
		"take 1":    func(q *Queue[*heavy]) { q.Take(1); q.Take(1) },
		"take last": func(q *Queue[*heavy]) { q.Take(q.Len() - 1); q.Take(q.Len() - 1) },
		"drop":      func(q *Queue[*heavy]) { n := 0; q.Drop(func(*heavy) bool { n++; return n > 4 }) },
		"drop all":  func(q *Queue[*heavy]) { q.Drop(all) },
	} {
		q := Of[*heavy]()
		var seen []weak.Pointer[heavy]
		for range 6 {
			h := &heavy{}
			q.Push(h)
			seen = append(seen, weak.Make(h))
		}
		out(q)
		runtime.GC()
		kept := 0
		for _, w := range seen {
			if w.Value() != nil {
				kept++
			}
		}
		if kept != q.Len() {
			t.Errorf("%s: %d are kept, of which %d wait", name, kept, q.Len())
		}
		runtime.KeepAlive(q)
	}
}

// A list is handed in, and its memory is let go, even if there is nothing in it but spare room.
func TestListIsNotKept(t *testing.T) {
	for _, count := range []int{0, 1, 6} {
		list := make([]heavy, 6)
		seen := weak.Make(&list[0])
		q := Of(list[:count]...)
		answer := q.List()
		room := weak.Make((*heavy)(nil))
		if len(answer) > 0 {
			room = weak.Make(&answer[0])
		}
		list, answer = nil, nil
		runtime.GC()
		if seen.Value() != nil || room.Value() != nil {
			t.Errorf("%d: a list is kept", count)
		}
		if q.Len() != count {
			t.Error(q.Len())
		}
	}
}
