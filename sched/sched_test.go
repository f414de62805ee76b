package sched

import (
	"fmt"
	"math"
	"reflect"
	"slices"
	"testing"

	"conduit/api"
)

// holds says that just these tasks are ready, in this order.
func holds(t *testing.T, what string, s *Sched, want ...int) {
	t.Helper()
	if got := s.List(); !slices.Equal(got, want) {
		t.Fatalf("%s: %v, want %v", what, got, want)
	}
	if got := s.Len(); got != len(want) {
		t.Fatalf("%s: Len is %d, want %d", what, got, len(want))
	}
}

// answers says what a Ready must answer.
func answers(t *testing.T, what string, got, want api.Errno) {
	t.Helper()
	if got != want {
		t.Fatalf("%s: %d, want %d", what, got, want)
	}
}

// picked says what a Pick must answer.
func picked(t *testing.T, what string, wantId int, wantLeft uint64) func(id int, left uint64, ok bool) {
	t.Helper()
	return func(id int, left uint64, ok bool) {
		t.Helper()
		if id != wantId || left != wantLeft || !ok {
			t.Fatalf("%s: %d, %d, %v, want %d, %d, true", what, id, left, ok, wantId, wantLeft)
		}
	}
}

// nobody says that a Pick must answer none.
func nobody(t *testing.T, what string) func(id int, left uint64, ok bool) {
	t.Helper()
	return func(id int, left uint64, ok bool) {
		t.Helper()
		if id != 0 || left != 0 || ok {
			t.Fatalf("%s: %d, %d, %v, want 0, 0, false", what, id, left, ok)
		}
	}
}

// gone says what a Gone must answer.
func gone(t *testing.T, what string, got, want bool) {
	t.Helper()
	if got != want {
		t.Fatalf("%s: %v, want %v", what, got, want)
	}
}

// of is a sched in which these tasks got ready, in this order.
func of(t *testing.T, ids ...int) *Sched {
	t.Helper()
	s := New()
	for _, id := range ids {
		answers(t, fmt.Sprint("Ready ", id), s.Ready(id), api.OK)
	}
	return s
}

// tens are so many ids, down to 10: they fall, so that no order but that of getting ready fits, and none is a place.
func tens(count int) []int {
	var ids []int
	for i := range count {
		ids = append(ids, 10*(count-i))
	}
	return ids
}

// without is a list without the place i.
func without(l []int, i int) []int {
	return slices.Delete(slices.Clone(l), i, i+1)
}

// picks are those that matter for n ready tasks.
func picks(n int) []uint64 {
	u := uint64(n)
	return []uint64{0, 1, u / 2, u - 1, u, u + 1, 2*u - 1, 2 * u, 2*u + 1, u*u - 1, u * u, u*u + 1, 1000003,
		math.MaxInt32, 1 << 31, 1<<32 - 1, 1 << 32, 1<<32 + 1, math.MaxInt64, 1 << 63, 1<<63 + 1, math.MaxUint64 - u, math.MaxUint64 - 1, math.MaxUint64}
}

// strange are ids that no test here makes ready.
func strange() []int {
	return []int{math.MinInt, math.MinInt32, -257, -256, -2, -1, 3, 999, 1 << 16, math.MaxInt32, math.MaxInt - 1, math.MaxInt}
}

func TestExamples(t *testing.T) {
	s := New()
	for _, id := range []int{5, 7, 9} {
		answers(t, fmt.Sprint("Ready ", id), s.Ready(id), api.OK)
	}
	answers(t, "Ready 7 again", s.Ready(7), api.ErrBusy)
	picked(t, "Pick 4", 7, 1)(s.Pick(4))
	picked(t, "Pick 0", 5, 0)(s.Pick(0))
	gone(t, "Gone 9", s.Gone(9), true)
	nobody(t, "Pick 1")(s.Pick(1))
}

// P14.1: of a new sched nobody is ready; two new ones are apart.
func TestNew(t *testing.T) {
	s, other := New(), New()
	for range 3 {
		holds(t, "new", s)
		for _, p := range picks(1) {
			nobody(t, fmt.Sprint("Pick ", p))(s.Pick(p))
		}
		for _, id := range append(strange(), 0) {
			gone(t, fmt.Sprint("Gone ", id), s.Gone(id), false)
		}
	}
	answers(t, "the first", s.Ready(0), api.OK)
	holds(t, "the first", s, 0)
	holds(t, "the other", other)
	answers(t, "the other's first", other.Ready(0), api.OK)
	picked(t, "Pick", 0, 0)(s.Pick(0))
	holds(t, "the other", other, 0)
	holds(t, "a third", New())
}

// P14.1: which ids may be.
func TestIds(t *testing.T) {
	for _, ready := range [][]int{nil, {0}, {1}, {5, 7, 9}, {math.MaxInt}, tens(256)} {
		s := of(t, ready...)
		for _, id := range []int{-1, -2, -255, -256, -257, math.MinInt32, -1 << 32, math.MinInt + 1, math.MinInt} {
			for range 2 {
				answers(t, fmt.Sprint("Ready ", id), s.Ready(id), api.ErrArg)
				holds(t, fmt.Sprint("behind ", id), s, ready...)
			}
		}
	}
	s := New()
	var want []int
	for _, id := range []int{math.MaxInt, 0, 1, 255, 256, 257, math.MaxInt32, math.MaxInt32 + 1, 1 << 32, math.MaxInt - 1} {
		answers(t, fmt.Sprint("Ready ", id), s.Ready(id), api.OK)
		want = append(want, id)
		holds(t, fmt.Sprint("behind ", id), s, want...)
	}
	for _, id := range want {
		picked(t, "each", id, 0)(s.Pick(0))
	}
}

// P14.1: one that is ready is refused, wherever it stands, and keeps its place.
func TestBusy(t *testing.T) {
	for _, ids := range [][]int{{0}, {math.MaxInt}, {1, 0}, {5, 7, 9}, tens(30), tens(255), tens(256)} {
		s := of(t, ids...)
		for _, id := range ids {
			for range 2 {
				answers(t, fmt.Sprint("Ready ", id), s.Ready(id), api.ErrBusy)
			}
		}
		holds(t, "nothing has changed", s, ids...)
		for _, id := range ids {
			picked(t, "in order", id, 0)(s.Pick(0))
		}
	}
}

// P14.1: one that was picked, or is gone, gets ready again, behind all others.
func TestReadyAgain(t *testing.T) {
	for _, count := range []int{1, 2, 3, 4, 50, 255, 256} {
		ids := tens(count)
		for i, id := range ids {
			s := of(t, ids...)
			picked(t, "Pick", id, 0)(s.Pick(uint64(i)))
			holds(t, "picked", s, without(ids, i)...)
			answers(t, "again", s.Ready(id), api.OK)
			answers(t, "twice", s.Ready(id), api.ErrBusy)
			want := append(without(ids, i), id)
			holds(t, "again", s, want...)
			gone(t, "Gone", s.Gone(id), true)
			holds(t, "gone", s, without(ids, i)...)
			answers(t, "once more", s.Ready(id), api.OK)
			answers(t, "twice", s.Ready(id), api.ErrBusy)
			holds(t, "once more", s, want...)
		}
	}
}

// P14.1: 256 may be ready, and no more; who goes makes room for one.
func TestFull(t *testing.T) {
	s := New()
	var want []int
	for i := range most {
		answers(t, fmt.Sprint(i, " are ready"), s.Ready(3*i), api.OK)
		want = append(want, 3*i)
		holds(t, "one more", s, want...)
	}
	for _, id := range []int{1, 2, 3*most - 1, 3 * most, math.MaxInt} {
		for range 2 {
			answers(t, "one too many", s.Ready(id), api.ErrFull)
			holds(t, "full", s, want...)
		}
		gone(t, "one that found no room", s.Gone(id), false)
	}
	for _, i := range []int{0, 1, 128, 254, 255} {
		for name, out := range map[string]func(){
			"picked": func() { picked(t, "Pick", want[i], 0)(s.Pick(uint64(i))) },
			"gone":   func() { gone(t, "Gone", s.Gone(want[i]), true) },
		} {
			out()
			was := want[i]
			want = without(want, i)
			holds(t, name, s, want...)
			answers(t, "room for one", s.Ready(1), api.OK)
			answers(t, "not for two", s.Ready(2), api.ErrFull)
			answers(t, "nor for the one that went", s.Ready(was), api.ErrFull)
			want = append(want, 1)
			holds(t, "full again", s, want...)
			picked(t, "the last", 1, 1)(s.Pick(2*most - 1))
			answers(t, "the one that went", s.Ready(was), api.OK)
			want[most-1] = was
			holds(t, "full again", s, want...)
		}
	}
}

// The table of errors: where two would hold, the one named first counts.
func TestOrderOfErrors(t *testing.T) {
	var none *Sched
	for _, s := range []*Sched{none, {}} {
		answers(t, "none, below nought", s.Ready(-1), api.ErrNil)
		answers(t, "none", s.Ready(0), api.ErrNil)
	}
	ids := tens(most)
	full := of(t, ids...)
	copied := *full
	answers(t, "a copy, below nought", copied.Ready(-1), api.ErrNil)
	answers(t, "a copy, ready", copied.Ready(ids[0]), api.ErrNil)
	answers(t, "a copy, full", copied.Ready(1), api.ErrNil)
	answers(t, "below nought, full", full.Ready(-1), api.ErrArg)
	for _, id := range ids {
		answers(t, "ready, full", full.Ready(id), api.ErrBusy)
	}
	answers(t, "full", full.Ready(1), api.ErrFull)
	holds(t, "nothing has changed", full, ids...)
}

// P14.2: with none ready nothing is picked, whatever p is: of a new sched, of one whose tasks were picked, or are gone.
func TestPickNone(t *testing.T) {
	drained, left := of(t, 5, 7), of(t, 5, 7)
	drained.Pick(1)
	drained.Pick(0)
	left.Gone(7)
	left.Gone(5)
	for name, s := range map[string]*Sched{"new": New(), "drained": drained, "left": left} {
		for _, p := range append(picks(1), picks(2)...) {
			nobody(t, fmt.Sprint(name, ": Pick ", p))(s.Pick(p))
			holds(t, name, s)
		}
		answers(t, name, s.Ready(7), api.OK)
		picked(t, name, 7, 9)(s.Pick(9))
		nobody(t, name)(s.Pick(9))
	}
}

// P14.2: with one ready it is picked, and p is left as it is.
func TestPickOne(t *testing.T) {
	for _, id := range []int{0, 1, 255, 256, math.MaxInt} {
		for _, p := range append(picks(1), picks(256)...) {
			s := of(t, id)
			picked(t, fmt.Sprint("Pick ", p), id, p)(s.Pick(p))
			holds(t, "picked", s)
			nobody(t, "again")(s.Pick(p))
		}
	}
}

// P14.2: the one at place p modulo n, which is ready no more; the others keep their order.
func TestPickMany(t *testing.T) {
	for _, count := range []int{2, 3, 4, 5, 7, 8, 16, 17, 100, 128, 255, 256} {
		ids, n := tens(count), uint64(count)
		for _, p := range picks(count) {
			s := of(t, ids...)
			place := int(p - p/n*n)
			picked(t, fmt.Sprintf("Pick %d of %d", p, count), ids[place], p/n)(s.Pick(p))
			holds(t, "picked", s, without(ids, place)...)
		}
		for place := range count {
			for round := range uint64(3) {
				s := of(t, ids...)
				picked(t, "every place", ids[place], round)(s.Pick(round*n + uint64(place)))
				holds(t, "picked", s, without(ids, place)...)
			}
		}
	}
}

// P14.2: answers that were worked out by hand.
func TestPickByHand(t *testing.T) {
	for _, c := range []struct {
		ids  []int
		p    uint64
		id   int
		left uint64
		list []int
	}{
		{[]int{4, 2}, 0, 4, 0, []int{2}},
		{[]int{4, 2}, 1, 2, 0, []int{4}},
		{[]int{4, 2}, 2, 4, 1, []int{2}},
		{[]int{4, 2}, 3, 2, 1, []int{4}},
		{[]int{4, 2}, 18446744073709551615, 2, 9223372036854775807, []int{4}},
		{[]int{8, 6, 7}, 2, 7, 0, []int{8, 6}},
		{[]int{8, 6, 7}, 3, 8, 1, []int{6, 7}},
		{[]int{8, 6, 7}, 100, 6, 33, []int{8, 7}},
		{[]int{8, 6, 7}, 9223372036854775808, 7, 3074457345618258602, []int{8, 6}},
		{[]int{8, 6, 7}, 18446744073709551615, 8, 6148914691236517205, []int{6, 7}},
		{[]int{0, 1, 2, 3, 4, 5, 6}, 18446744073709551615, 1, 2635249153387078802, []int{0, 2, 3, 4, 5, 6}},
	} {
		s := of(t, c.ids...)
		picked(t, fmt.Sprintf("Pick %d of %v", c.p, c.ids), c.id, c.left)(s.Pick(c.p))
		holds(t, "picked", s, c.list...)
	}
}

// handedOn picks all, each by what the one ahead left, and tells who came and what is left at last.
func handedOn(s *Sched, p uint64) ([]int, uint64) {
	var order []int
	for {
		id, left, ok := s.Pick(p)
		if !ok {
			return order, p
		}
		order, p = append(order, id), left
	}
}

// P14.2: picks that hand on what was left say by one number any order of n tasks, each by one number below n!.
func TestPicksHandedOn(t *testing.T) {
	ways := uint64(1)
	for n := 1; n <= 6; n++ {
		ways *= uint64(n)
		seen := map[string]bool{}
		for p := range ways {
			order, left := handedOn(of(t, tens(n)...), p)
			if seen[fmt.Sprint(order)] || left != 0 || len(order) != n {
				t.Fatalf("%d of %d: %v, %d left", p, n, order, left)
			}
			seen[fmt.Sprint(order)] = true
			for _, over := range []uint64{1, 2, 1000003, math.MaxUint64/ways - 1} {
				more, left := handedOn(of(t, tens(n)...), over*ways+p)
				if !slices.Equal(more, order) || left != over {
					t.Fatalf("%d and %d times %d: %v, %d left, want %v, %d", p, over, ways, more, left, order, over)
				}
			}
		}
	}
	// By hand: 2000 is 0 of 5, then 400: 0 of 4, 100: 1 of 3, 33: 1 of 2, 16: 0 of 1, and 16 are left.
	order, left := handedOn(of(t, 1, 2, 3, 4, 5), 2000)
	if !slices.Equal(order, []int{1, 2, 4, 5, 3}) || left != 16 {
		t.Error(order, left)
	}
}

// P14.3: the first, the last, and each between; the others keep their order, and it is not ready any more.
func TestGone(t *testing.T) {
	for _, count := range []int{1, 2, 3, 4, 5, 8, 17, 100, 255, 256} {
		ids := tens(count)
		for i, id := range ids {
			s := of(t, ids...)
			gone(t, "Gone", s.Gone(id), true)
			rest := without(ids, i)
			holds(t, "gone", s, rest...)
			for range 2 {
				gone(t, "again", s.Gone(id), false)
				holds(t, "again", s, rest...)
			}
			for _, other := range rest {
				picked(t, "the others", other, 0)(s.Pick(0))
			}
			nobody(t, "none is left")(s.Pick(0))
		}
		s := of(t, ids...)
		for i, id := range slices.Backward(ids) {
			gone(t, "from behind", s.Gone(id), true)
			holds(t, "from behind", s, ids[:i]...)
		}
	}
}

// P14.3: ids that are not ready, that never were, and that never may be; nothing changes.
func TestGoneOfNobody(t *testing.T) {
	for _, ids := range [][]int{nil, {5}, {5, 7, 9}, tens(20), tens(256)} {
		s := of(t, ids...)
		for _, id := range append(strange(), 0) {
			for range 2 {
				gone(t, fmt.Sprint("Gone ", id), s.Gone(id), false)
				holds(t, "nothing has changed", s, ids...)
			}
		}
	}
	s := of(t, 5, 7, 9)
	picked(t, "Pick", 7, 0)(s.Pick(1))
	gone(t, "one that was picked", s.Gone(7), false)
	s.Ready(-1)
	gone(t, "one that was refused", s.Gone(-1), false)
	holds(t, "two are left", s, 5, 9)
	gone(t, "the least", of(t, 1, 0).Gone(0), true)
	gone(t, "the greatest", of(t, 1, math.MaxInt).Gone(math.MaxInt), true)
}

// P14.4: with picks of 0 tasks are picked in the order in which they got ready, however the calls are mixed.
func TestInOrder(t *testing.T) {
	for seed := range uint64(200) {
		next := row(seed)
		s := New()
		// since tells when each task got ready last; a task that went otherwise has none.
		since := map[int]int{}
		last := -1
		for step := range 600 {
			id := next(40)
			switch next(6) {
			case 0, 1, 2:
				if s.Ready(id) == api.OK {
					since[id] = step
				}
			case 3:
				s.Gone(id)
				delete(since, id)
			case 4:
				if id, _, ok := s.Pick(uint64(next(1000))); ok {
					delete(since, id)
				}
			case 5:
				id, _, ok := s.Pick(0)
				if ok != (len(since) > 0) {
					t.Fatalf("seed %d, step %d: Pick says %v, with %d ready", seed, step, ok, len(since))
				}
				if !ok {
					continue
				}
				at, is := since[id]
				if !is || at < last {
					t.Fatalf("seed %d, step %d: %d was picked, which got ready at %d, behind one that did so at %d", seed, step, id, at, last)
				}
				last = at
				delete(since, id)
			}
		}
	}
}

// P14.4: whoever is ready, with m others, is picked within m + 1 picks of 0, even if others get ready, or are gone, meanwhile.
func TestWithinPicks(t *testing.T) {
	for seed := range uint64(30) {
		next := row(seed)
		for _, count := range []int{1, 2, 3, 10, 255, 256} {
			ids := tens(count)
			for _, i := range []int{0, count / 2, count - 1} {
				s := of(t, ids...)
				found := false
				for range count {
					id, _, ok := s.Pick(0)
					if found = id == ids[i] && ok; found {
						break
					}
					s.Ready(next(5))
					s.Ready(id)
					if other := ids[next(count)]; other != ids[i] {
						s.Gone(other)
					}
				}
				if !found {
					t.Fatalf("seed %d: %d of %d was not picked", seed, i, count)
				}
			}
		}
	}
}

// refusedAll says that a sched is none: every call answers zeros, or ErrNil.
func refusedAll(t *testing.T, what string, s *Sched) {
	t.Helper()
	for range 2 {
		for _, id := range []int{math.MinInt, -1, 0, 1, 5, math.MaxInt} {
			answers(t, what, s.Ready(id), api.ErrNil)
			gone(t, what, s.Gone(id), false)
		}
		for _, p := range picks(2) {
			nobody(t, what)(s.Pick(p))
		}
		if s.Len() != 0 || s.List() != nil {
			t.Fatalf("%s: %d, %v", what, s.Len(), s.List())
		}
	}
}

// R5: no sched, and those that New did not answer; a copy of one that it did is none, and leaves the first as it was.
func TestNoSched(t *testing.T) {
	refusedAll(t, "nil", nil)
	refusedAll(t, "a zero", &Sched{})
	refusedAll(t, "a new one", new(Sched))
	var field struct{ s Sched }
	refusedAll(t, "a field", &field.s)
	for _, ids := range [][]int{nil, {5}, {5, 1, 0}, tens(256)} {
		s := of(t, ids...)
		copied := *s
		refusedAll(t, "a copy", &copied)
		holds(t, "what was copied", s, ids...)
		gone(t, "Gone", s.Gone(5), slices.Contains(ids, 5))
		refusedAll(t, "a copy of what went on", &copied)
		again := New()
		*again = *s
		refusedAll(t, "one that a copy was laid over", again)
	}
}

// scribble writes over a list and its spare room.
func scribble(list []int) {
	list = list[:cap(list)]
	for i := range list {
		list[i] = -33
	}
}

// changes are what may be done to a sched of tens.
func changes() map[string]func(s *Sched) {
	return map[string]func(s *Sched){
		"ready":      func(s *Sched) { s.Ready(1) },
		"ready four": func(s *Sched) { s.Ready(1); s.Ready(2); s.Ready(3); s.Ready(4) },
		"pick":       func(s *Sched) { s.Pick(0) },
		"pick ready": func(s *Sched) { s.Pick(0); s.Ready(1); s.Pick(0); s.Ready(2) },
		"pick last":  func(s *Sched) { s.Pick(math.MaxUint64) },
		"gone first": func(s *Sched) { s.Gone(10 * s.Len()); s.Ready(1) },
		"gone last":  func(s *Sched) { s.Gone(10); s.Ready(1) },
		"gone none":  func(s *Sched) { s.Gone(3); s.Ready(1) },
		"refused":    func(s *Sched) { s.Ready(-1); s.Ready(10) },
	}
}

// R3: a list that was answered is apart from the sched and from other lists, its spare room too.
func TestHandedOut(t *testing.T) {
	counts := []int{0, 1, 2, 3, 4, 5, 6, 7, 8, 9, 15, 16, 17, 63, 64, 65, 254, 255, 256}
	for _, count := range counts {
		for name, change := range changes() {
			what := fmt.Sprintf("%d, %s", count, name)
			ids := tens(count)
			s := of(t, ids...)
			a, b := s.List(), s.List()
			scribble(a)
			holds(t, what, s, ids...)
			if !slices.Equal(b, ids) {
				t.Fatalf("%s: the other list is %v", what, b)
			}
			room := slices.Clone(b[:cap(b)])
			change(s)
			if !slices.Equal(b[:cap(b)], room) {
				t.Fatalf("%s: a list has changed with its sched: %v", what, b[:cap(b)])
			}
			want := s.List()
			scribble(b)
			holds(t, what, s, want...)
			if e := s.Ready(8); e == api.OK {
				want = append(want, 8)
			}
			holds(t, what, s, want...)
		}
	}
}

// R3: lists that were answered one behind the other, while the sched went on, are apart from each other.
func TestListsApart(t *testing.T) {
	s := New()
	next := row(7)
	var lists [][]int
	var wants [][]int
	for step := range 400 {
		if step/100%2 == 0 {
			s.Ready(step)
		} else {
			s.Pick(uint64(next(50)))
		}
		list := s.List()
		lists = append(lists, list)
		wants = append(wants, slices.Clone(list[:cap(list)]))
	}
	for i, list := range lists {
		if !slices.Equal(list[:cap(list)], wants[i]) {
			t.Fatalf("the list at step %d has changed", i)
		}
		scribble(list)
	}
}

// R2: a call that is refused, or answers false, leaves the sched as it was: the same picks answer the same behind it.
func TestNothingChanges(t *testing.T) {
	for _, count := range []int{0, 1, 2, 5, 255, 256} {
		ids := tens(count)
		for p := range uint64(20) {
			s := of(t, ids...)
			for _, id := range ids {
				s.Ready(id)
			}
			for _, id := range strange() {
				s.Gone(id)
			}
			s.Ready(-1)
			s.Ready(math.MinInt)
			if count == most {
				s.Ready(1)
			}
			if count == 0 {
				s.Pick(p)
			}
			got, left := handedOn(s, p*0x9E3779B97F4A7C15)
			want, rest := handedOn(of(t, ids...), p*0x9E3779B97F4A7C15)
			if !slices.Equal(got, want) || left != rest {
				t.Fatalf("%d: %v, %d, want %v, %d", count, got, left, want, rest)
			}
		}
	}
}

// A sched has the chapter's calls alone, and no field that another package could set: nobody gets ready but by Ready.
func TestFace(t *testing.T) {
	face := reflect.TypeOf(New())
	var calls []string
	for i := range face.NumMethod() {
		calls = append(calls, face.Method(i).Name)
	}
	if want := []string{"Gone", "Len", "List", "Pick", "Ready"}; !slices.Equal(calls, want) {
		t.Errorf("%v, want %v", calls, want)
	}
	for i := range face.Elem().NumField() {
		if f := face.Elem().Field(i); f.IsExported() {
			t.Errorf("%s is exported", f.Name)
		}
	}
}
