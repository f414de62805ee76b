package csp

import (
	"fmt"
	"math"
	"reflect"
	"slices"
	"testing"

	"conduit/api"
)

// answers says what a call must answer.
func answers[T comparable](t *testing.T, what string, got, want T) {
	t.Helper()
	if got != want {
		t.Fatalf("%s: %v, want %v", what, got, want)
	}
}

// lists says what a call must list.
func lists[T comparable](t *testing.T, what string, got []T, want ...T) {
	t.Helper()
	if !slices.Equal(got, want) {
		t.Fatalf("%s: %v, want %v", what, got, want)
	}
}

// stands says which tasks must be ready, and which parked.
func stands(t *testing.T, what string, r *Runtime, ready, parked []int) {
	t.Helper()
	lists(t, what+": Ready", r.Ready(), ready...)
	lists(t, what+": Parked", r.Parked(), parked...)
}

// spawn is a new task, which there must be room for.
func spawn(t *testing.T, r *Runtime, f func(t *Task)) *Task {
	t.Helper()
	task, e := r.Spawn(f)
	if e != api.OK || task == nil {
		t.Fatalf("Spawn: %v, %d", task, e)
	}
	return task
}

// nothing is a function of a task that says nothing.
func nothing(*Task) {}

// parks is one of a task that parks, and is over when it was woken.
func parks(t *Task) { t.Park(func(int) {}) }

// yields is one of a task that is ready again, for ever.
func yields(t *Task) {
	t.Yield(func() { yields(t) })
}

// of is a runtime with so many tasks of a function, and they.
func of(t *testing.T, count int, f func(t *Task)) (*Runtime, []*Task) {
	t.Helper()
	r := New()
	var tasks []*Task
	for range count {
		tasks = append(tasks, spawn(t, r, f))
	}
	return r, tasks
}

// within does something in a turn of a new task, at the end of the line, with 999 left of its pick.
func within(t *testing.T, r *Runtime, do func(self *Task)) *Task {
	t.Helper()
	done := false
	task := spawn(t, r, func(self *Task) {
		do(self)
		done = true
	})
	if !r.Step(1000*uint64(len(r.Ready()))-1) || !done {
		t.Fatal("no turn")
	}
	return task
}

// numbers are from first on, so many.
func numbers(first, count int) []int {
	var l []int
	for i := range count {
		l = append(l, first+i)
	}
	return l
}

// without is a list without the place i.
func without(l []int, i int) []int {
	return slices.Delete(slices.Clone(l), i, i+1)
}

// picksOf are those that matter for n ready tasks.
func picksOf(n int) []uint64 {
	u := uint64(n)
	return []uint64{0, 1, u / 2, u - 1, u, u + 1, 2*u - 1, 2 * u, u*u - 1, u * u, 1000003, math.MaxInt64, 1 << 63, math.MaxUint64 - u, math.MaxUint64 - 1, math.MaxUint64}
}

func TestExample(t *testing.T) {
	r := New()
	var turns []string
	a := spawn(t, r, func(a *Task) {
		turns = append(turns, "a")
		a.Yield(func() { turns = append(turns, "a again") })
	})
	b := spawn(t, r, func(b *Task) {
		turns = append(turns, "b")
		b.Park(func(why int) { turns = append(turns, fmt.Sprint("b ", why)) })
	})
	answers(t, "a's first turn", r.Step(0), true)
	lists(t, "turns", turns, "a")
	answers(t, "b's", r.Step(0), true)
	lists(t, "turns", turns, "a", "b")
	stands(t, "behind both", r, []int{0}, []int{1})
	answers(t, "a's second turn", r.Step(0), true)
	lists(t, "turns", turns, "a", "b", "a again")
	answers(t, "a is over", a.Over(), true)
	answers(t, "none is ready", r.Step(0), false)
	answers(t, "Wake", b.Wake(7), api.OK)
	answers(t, "b's second turn", r.Step(0), true)
	lists(t, "turns", turns, "a", "b", "a again", "b 7")
	answers(t, "b is over", b.Over(), true)
}

// P15.1: a new runtime has no tasks; two new ones are apart.
func TestNew(t *testing.T) {
	r, other := New(), New()
	for range 2 {
		answers(t, "Made", r.Made(), true)
		answers(t, "Running", r.Running(), false)
		stands(t, "new", r, nil, nil)
		for _, p := range picksOf(1) {
			answers(t, "Step", r.Step(p), false)
			answers(t, "Run", r.Run([]uint64{p}, 5), 0)
		}
		answers(t, "Choice", r.Choice(3), 0)
	}
	a := spawn(t, r, nothing)
	stands(t, "the other", other, nil, nil)
	answers(t, "the other's Step", other.Step(0), false)
	b := spawn(t, other, parks)
	answers(t, "the first number of each", a.Id()+b.Id(), 0)
	answers(t, "Runtime", a.Runtime() == r && b.Runtime() == other && r != other, true)
	answers(t, "the other's Step", other.Step(0), true)
	stands(t, "the first", r, []int{0}, nil)
	stands(t, "the other", other, nil, []int{0})
}

// P15.1: a task is numbered, ready, and of the runtime, as soon as it is answered; its function is called in its first turn, with itself.
func TestSpawn(t *testing.T) {
	r := New()
	var tasks, handed []*Task
	for i := range 20 {
		task := spawn(t, r, func(self *Task) { handed = append(handed, self) })
		tasks = append(tasks, task)
		answers(t, "Id", task.Id(), i)
		answers(t, "Over", task.Over(), false)
		answers(t, "Runtime", task.Runtime(), r)
		stands(t, "spawned", r, numbers(0, i+1), nil)
		answers(t, "calls ahead of a turn", len(handed), 0)
	}
	for i, task := range tasks {
		answers(t, "Step", r.Step(0), true)
		lists(t, "handed", handed, tasks[:i+1]...)
		answers(t, "Over", task.Over(), true)
		answers(t, "Id", task.Id(), i)
		answers(t, "Runtime", task.Runtime(), r)
	}
}

// refusedSpawn says that a Spawn must be refused, and leaves the tasks as they were.
func refusedSpawn(t *testing.T, what string, r *Runtime, f func(t *Task), want api.Errno) {
	t.Helper()
	ready, parked := r.Ready(), r.Parked()
	for range 2 {
		task, e := r.Spawn(f)
		answers(t, what, e, want)
		answers(t, what+": the task", task, nil)
		stands(t, what, r, ready, parked)
	}
}

// P15.1: no function is refused, within a turn too, with room or without; no number is used up.
func TestSpawnNothing(t *testing.T) {
	r := New()
	refusedSpawn(t, "new", r, nil, api.ErrNil)
	answers(t, "Id", spawn(t, r, nothing).Id(), 0)
	refusedSpawn(t, "with one", r, nil, api.ErrNil)
	within(t, r, func(self *Task) {
		refusedSpawn(t, "within a turn", r, nil, api.ErrNil)
		answers(t, "Id", spawn(t, r, nothing).Id(), 2)
	})
	full, _ := of(t, most, nothing)
	refusedSpawn(t, "full", full, nil, api.ErrNil)
}

// P15.1: 256 tasks may not be over, however they stand, and no more; who is over makes room for one.
func TestSpawnFull(t *testing.T) {
	fill := map[string]func(r *Runtime){
		"ready":   func(r *Runtime) {},
		"yielded": func(r *Runtime) { r.Run(nil, most) },
		"parked":  func(r *Runtime) { r.Run(nil, most) },
		"half":    func(r *Runtime) { r.Run([]uint64{1}, most/2) },
	}
	kinds := map[string]func(*Task){"ready": nothing, "yielded": yields, "parked": parks, "half": parks}
	for name, mix := range fill {
		r, tasks := of(t, most-2, kinds[name])
		for _, id := range []int{most - 2, most - 1} {
			task := spawn(t, r, kinds[name])
			tasks = append(tasks, task)
			answers(t, name+": with room", task.Id(), id)
		}
		mix(r)
		refusedSpawn(t, name, r, nothing, api.ErrFull)
		answers(t, name+": none is over", slices.ContainsFunc(tasks, (*Task).Over), false)
	}
}

// P15.1: the task whose turn it is is not over, whatever it has said, till its turn has ended.
func TestSpawnFullWithin(t *testing.T) {
	r, tasks := of(t, most-1, parks)
	answers(t, "Run", r.Run(nil, most), most-1)
	last := within(t, r, func(self *Task) {
		answers(t, "Id", self.Id(), most-1)
		refusedSpawn(t, "nothing is said", r, nothing, api.ErrFull)
		answers(t, "Park", self.Park(func(int) {
			refusedSpawn(t, "woken", r, nothing, api.ErrFull)
			answers(t, "Yield", self.Yield(func() { refusedSpawn(t, "the last turn", r, nothing, api.ErrFull) }), api.OK)
			refusedSpawn(t, "yielded", r, nothing, api.ErrFull)
		}), api.OK)
		refusedSpawn(t, "parked", r, nothing, api.ErrFull)
	})
	refusedSpawn(t, "outside", r, nothing, api.ErrFull)
	answers(t, "Wake", last.Wake(0), api.OK)
	answers(t, "Run", r.Run(nil, 9), 2)
	answers(t, "over", last.Over(), true)
	answers(t, "room for one", spawn(t, r, nothing).Id(), most)
	refusedSpawn(t, "not for two", r, nothing, api.ErrFull)
	for i := range 5 {
		answers(t, "Wake", tasks[i].Wake(0), api.OK)
	}
	refusedSpawn(t, "who was woken is not over", r, nothing, api.ErrFull)
	answers(t, "Run", r.Run(nil, 99), 6)
	for i := range 6 {
		answers(t, "room for six", spawn(t, r, nothing).Id(), most+1+i)
	}
	refusedSpawn(t, "not for seven", r, nothing, api.ErrFull)
}

// P15.1: a turn may make tasks, up to the last one for which there is room: 254 others, and itself.
func TestSpawnWithin(t *testing.T) {
	r, _ := of(t, 5, nothing)
	answers(t, "Run", r.Run(nil, 5), 5)
	self := within(t, r, func(self *Task) {
		for i := range most - 1 {
			answers(t, "Id", spawn(t, r, nothing).Id(), 6+i)
		}
		refusedSpawn(t, "full", r, nothing, api.ErrFull)
		stands(t, "within", r, numbers(6, most-1), nil)
	})
	answers(t, "over", self.Over(), true)
	answers(t, "Id", spawn(t, r, nothing).Id(), 5+most)
	refusedSpawn(t, "full", r, nothing, api.ErrFull)
	stands(t, "outside", r, numbers(6, most), nil)
}

// P15.1: numbers go on from all that ever were, however many are over.
func TestNumbers(t *testing.T) {
	r := New()
	for i := range 3 * most {
		answers(t, "Id", spawn(t, r, nothing).Id(), i)
		if i%3 == 2 {
			answers(t, "Run", r.Run([]uint64{2, 0}, 3), 3)
		}
	}
	stands(t, "all are over", r, nil, nil)
	answers(t, "Id", spawn(t, r, nothing).Id(), 3*most)
}

// P15.2: with none ready there is no turn, whatever the pick: with all over, with all parked.
func TestStepNone(t *testing.T) {
	gone, _ := of(t, 3, nothing)
	gone.Run(nil, 3)
	waits, tasks := of(t, 3, parks)
	waits.Run(nil, 3)
	for name, r := range map[string]*Runtime{"over": gone, "parked": waits} {
		parked := r.Parked()
		for _, p := range append(picksOf(1), picksOf(3)...) {
			answers(t, name, r.Step(p), false)
			answers(t, name, r.Run([]uint64{p}, 3), 0)
			stands(t, name, r, nil, parked)
		}
	}
	tasks[1].Wake(0)
	answers(t, "one is ready", waits.Step(math.MaxUint64), true)
	answers(t, "none", waits.Step(math.MaxUint64), false)
	stands(t, "two wait", waits, nil, []int{0, 2})
}

// P15.2: of n that are ready the one at place p modulo n has its turn; the others keep their order.
func TestStepPicks(t *testing.T) {
	for _, count := range []int{1, 2, 3, 4, 7, 8, 100, 255, 256} {
		n := uint64(count)
		for _, p := range picksOf(count) {
			ran, left := -1, uint64(0)
			r, tasks := of(t, count, func(self *Task) {
				ran = self.Id()
				left = uint64(self.Runtime().Choice(math.MaxInt))
			})
			place := int(p - p/n*n)
			what := fmt.Sprintf("Step %d of %d", p, count)
			answers(t, what, r.Step(p), true)
			answers(t, what, ran, place)
			answers(t, what+": left", left, p/n%math.MaxInt)
			answers(t, what+": over", tasks[place].Over(), true)
			stands(t, what, r, without(numbers(0, count), place), nil)
		}
	}
}

// P15.2: who is ready again stands behind all others; picks of 0 go round.
func TestStepRound(t *testing.T) {
	r := New()
	var turns []int
	var again func(self *Task)
	again = func(self *Task) {
		turns = append(turns, self.Id())
		self.Yield(func() { again(self) })
	}
	for range 3 {
		spawn(t, r, again)
	}
	for _, p := range []uint64{0, 0, 0, 0, 1, 2, 5, 3} {
		answers(t, "Step", r.Step(p), true)
	}
	lists(t, "turns", turns, 0, 1, 2, 0, 2, 2, 2, 1)
}

// P15.2, P15.3: within a turn a Step and a Run do nothing, whatever the task has said, and leave what is left of the pick.
func TestStepWithin(t *testing.T) {
	says := map[string]func(self *Task){
		"nothing": func(self *Task) {},
		"yielded": func(self *Task) { self.Yield(func() {}) },
		"parked":  func(self *Task) { self.Park(func(int) {}) },
		"woken":   func(self *Task) { self.Park(func(int) {}); self.Wake(1) },
	}
	for name, say := range says {
		r := New()
		done := false
		first := spawn(t, r, func(self *Task) {
			say(self)
			ready, parked := r.Ready(), r.Parked()
			for _, p := range picksOf(3) {
				answers(t, name+": Step", r.Step(p), false)
				answers(t, name+": Run", r.Run([]uint64{p}, 9), 0)
				answers(t, name+": Run", r.Run(nil, math.MaxInt), 0)
			}
			answers(t, name+": Running", r.Running(), true)
			answers(t, name+": Over", self.Over(), false)
			stands(t, name, r, ready, parked)
			answers(t, name+": what is left", r.Choice(1000), 77)
			done = true
		})
		others := []*Task{spawn(t, r, nothing), spawn(t, r, nothing)}
		answers(t, name, r.Step(3*77), true)
		answers(t, name+": the turn", done, true)
		answers(t, name+": Running", r.Running(), false)
		answers(t, name+": Over", first.Over(), name == "nothing")
		answers(t, name+": the others", slices.ContainsFunc(others, (*Task).Over), false)
		answers(t, name+": behind it", r.Step(0), true)
	}
}

// noter is a runtime with so many tasks of which each has so many turns, and notes its number in each.
func noter(t *testing.T, tasks, turns int) (*Runtime, *[]int) {
	t.Helper()
	r, noted := New(), &[]int{}
	for range tasks {
		left := turns
		var again func(self *Task)
		again = func(self *Task) {
			*noted = append(*noted, self.Id())
			if left--; left > 0 {
				self.Yield(func() { again(self) })
			}
		}
		spawn(t, r, again)
	}
	return r, noted
}

// P15.2: the i-th Step has the pick i modulo how many there are, or 0; a Run is so many Steps, at most, till one tells false.
func TestRun(t *testing.T) {
	lists := [][]uint64{nil, {}, {0}, {1}, {2, 0}, {0, 1, 2}, {5, 3, 8, 1, 9, 2, 6}, {math.MaxUint64, 0, 1 << 63}}
	long := make([]uint64, 40)
	for i := range long {
		long[i] = uint64(i * i)
	}
	for _, picks := range append(lists, long) {
		for _, most := range []int{math.MinInt, -1, 0, 1, 2, 3, 5, 8, 11, 12, 13, 40, math.MaxInt} {
			r, got := noter(t, 4, 3)
			same, want := noter(t, 4, 3)
			what := fmt.Sprintf("Run %v, %d", picks, most)
			count := min(12, max(0, most))
			for i := range count {
				p := uint64(0)
				if len(picks) > 0 {
					p = picks[i%len(picks)]
				}
				answers(t, what, same.Step(p), true)
			}
			answers(t, what, r.Run(picks, most), count)
			answers(t, what, fmt.Sprint(*got), fmt.Sprint(*want))
			stands(t, what, r, same.Ready(), same.Parked())
			answers(t, what+": the rest", r.Run(picks, 99), 12-count)
		}
	}
}

// P15.2: turns that were worked out by hand.
func TestRunByHand(t *testing.T) {
	for _, c := range []struct {
		picks []uint64
		most  int
		turns []int
	}{
		{nil, 7, []int{0, 1, 2, 0, 1, 2}},
		{[]uint64{1}, 7, []int{1, 2, 1, 2, 0, 0}},
		{[]uint64{2, 0}, 4, []int{2, 0, 0, 1}},
		{[]uint64{2, 4, 6}, 7, []int{2, 1, 0, 0, 2, 1}},
	} {
		r, turns := noter(t, 3, 2)
		answers(t, "Run", r.Run(c.picks, c.most), len(c.turns))
		lists(t, fmt.Sprint("Run ", c.picks), *turns, c.turns...)
	}
}

// P15.2: a Run ends where none is ready, though some are parked, and goes on behind tasks that its turns make or wake.
func TestRunEnds(t *testing.T) {
	r, tasks := of(t, 3, parks)
	answers(t, "all park", r.Run([]uint64{1}, 99), 3)
	answers(t, "none is ready", r.Run([]uint64{1}, 99), 0)
	spawn(t, r, func(self *Task) {
		tasks[2].Wake(0)
		spawn(t, r, func(self *Task) { tasks[0].Wake(0) })
	})
	answers(t, "one, two of its making, one of theirs", r.Run(nil, 99), 4)
	stands(t, "one waits", r, nil, []int{1})
}

// R3: picks are neither changed nor kept, their spare room neither.
func TestRunPicks(t *testing.T) {
	room := []uint64{4, 1, 7, 3, 9, 11, 13, 17}
	was := slices.Clone(room)
	r, got := noter(t, 4, 3)
	r.Run(room[2:5], 7)
	lists(t, "picks", room, was...)
	clear(room)
	same, want := noter(t, 4, 3)
	same.Run(was[2:5], 7)
	for range 5 {
		r.Step(1)
		same.Step(1)
	}
	lists(t, "turns", *got, *want...)
}

// P15.3: within a turn what is left is taken apart, choice by choice.
func TestChoice(t *testing.T) {
	for _, c := range []struct {
		tasks int
		p     uint64
		n     []int
		want  []int
	}{
		{1, 0, []int{1, 2, 3}, []int{0, 0, 0}},
		{1, 1234, []int{10, 10, 10, 10, 10}, []int{4, 3, 2, 1, 0}},
		{1, 1234, []int{1, 1, 10, 1, 100, 1}, []int{0, 0, 4, 0, 23, 0}},
		{1, 1234, []int{0, 10, -1, 10, math.MinInt, 10, -10, 10, 0}, []int{0, 4, 0, 3, 0, 2, 0, 1, 0}},
		{1, 7, []int{8, 8}, []int{7, 0}},
		{1, 8, []int{8, 8}, []int{0, 1}},
		{1, 9, []int{8, 8}, []int{1, 1}},
		{3, 22, []int{2, 4}, []int{1, 3}},
		{256, 256*7 + 5, []int{7, 2}, []int{0, 1}},
		{1, math.MaxUint64, []int{math.MaxInt, math.MaxInt}, []int{1, 2}},
		{1, math.MaxUint64, []int{2, math.MaxInt, 2}, []int{1, 0, 1}},
		{1, 1 << 63, []int{math.MaxInt, 2}, []int{1, 1}},
		{2, math.MaxUint64, []int{math.MaxInt32, math.MaxInt32, 9}, []int{1, 4, 2}},
	} {
		var got []int
		r, _ := of(t, c.tasks, func(self *Task) {
			for _, n := range c.n {
				got = append(got, self.Runtime().Choice(n))
			}
		})
		answers(t, "Step", r.Step(c.p), true)
		lists(t, fmt.Sprintf("%d of %d, %v", c.p, c.tasks, c.n), got, c.want...)
	}
}

// P15.3: outside of a turn there is no choice: ahead of the first, behind one that left much, and with others ready.
func TestChoiceOutside(t *testing.T) {
	r, _ := of(t, 2, yields)
	none := func(what string) {
		t.Helper()
		for _, n := range []int{math.MinInt, -1, 0, 1, 2, 7, math.MaxInt} {
			answers(t, what, r.Choice(n), 0)
		}
	}
	none("ahead of a turn")
	answers(t, "Step", r.Step(math.MaxUint64), true)
	none("behind a turn")
	within(t, r, func(self *Task) { self.Park(func(int) {}) })
	none("behind a turn that parked")
	r.Run([]uint64{1000}, 10)
	none("behind a Run")
}

// P15.3: each turn has its own pick, however much the one ahead left; what a task says, and other calls, leave it as it is.
func TestChoiceOfEachTurn(t *testing.T) {
	r := New()
	var got []int
	spawn(t, r, func(self *Task) {
		got = append(got, r.Choice(10))
		self.Yield(func() {
			got = append(got, r.Choice(10))
			other := spawn(t, r, nothing)
			self.Yield(nil)
			other.Wake(1)
			self.Park(func(int) { got = append(got, r.Choice(10), r.Choice(10)) })
			got = append(got, r.Choice(10))
			self.Wake(3)
			got = append(got, r.Choice(10))
		})
		got = append(got, r.Choice(10))
	})
	for _, p := range []uint64{4321, 8765, 2*98 + 1} {
		answers(t, "Step", r.Step(p), true)
	}
	lists(t, "choices", got, 1, 2, 5, 6, 7, 8, 9)
}

// P15.4: a task that yields is ready at once, behind all others, with another function; the turn goes on.
func TestYield(t *testing.T) {
	r := New()
	var turns []string
	a := spawn(t, r, func(self *Task) {
		stands(t, "ahead of it", r, []int{1}, nil)
		answers(t, "Yield", self.Yield(func() { turns = append(turns, "a again") }), api.OK)
		stands(t, "as soon as it has said so", r, []int{1, 0}, nil)
		answers(t, "Running", r.Running(), true)
		answers(t, "Over", self.Over(), false)
		spawn(t, r, func(*Task) { turns = append(turns, "c") })
		stands(t, "who comes then stands behind it", r, []int{1, 0, 2}, nil)
		turns = append(turns, "a")
	})
	spawn(t, r, func(*Task) { turns = append(turns, "b") })
	answers(t, "Step", r.Step(0), true)
	answers(t, "Over", a.Over(), false)
	stands(t, "behind the turn", r, []int{1, 0, 2}, nil)
	answers(t, "Run", r.Run(nil, 9), 3)
	lists(t, "turns", turns, "a", "b", "a again", "c")
	answers(t, "Over", a.Over(), true)
}

// P15.4: a task that parks is parked at once, and stays so till it is woken.
func TestPark(t *testing.T) {
	r := New()
	var whys []int
	a := spawn(t, r, func(self *Task) {
		answers(t, "Park", self.Park(func(why int) { whys = append(whys, why) }), api.OK)
		stands(t, "as soon as it has said so", r, []int{1}, []int{0})
		answers(t, "Running", r.Running(), true)
		answers(t, "Over", self.Over(), false)
	})
	spawn(t, r, yields)
	answers(t, "Run", r.Run(nil, 50), 50)
	stands(t, "nobody wakes it", r, []int{1}, []int{0})
	answers(t, "Over", a.Over(), false)
	answers(t, "no turn", len(whys), 0)
	answers(t, "Wake", a.Wake(5), api.OK)
	stands(t, "woken", r, []int{1, 0}, nil)
	answers(t, "Run", r.Run(nil, 50), 50)
	lists(t, "whys", whys, 5)
	answers(t, "Over", a.Over(), true)
	stands(t, "over", r, []int{1}, nil)
}

// refusedTask says that a task must refuse a Yield and a Park, and a Wake unless it is parked; nothing changes.
func refusedTask(t *testing.T, what string, task *Task, says, wake api.Errno) {
	t.Helper()
	r := task.Runtime()
	ready, parked, over, running := r.Ready(), r.Parked(), task.Over(), r.Running()
	called := func() { t.Errorf("%s: a function that was refused is called", what) }
	for range 2 {
		answers(t, what+": Yield of nothing", task.Yield(nil), api.ErrNil)
		answers(t, what+": Park of nothing", task.Park(nil), api.ErrNil)
		answers(t, what+": Yield", task.Yield(called), says)
		answers(t, what+": Park", task.Park(func(int) { called() }), says)
		for _, why := range []int{0, 7, -1, math.MaxInt, math.MinInt} {
			if wake != api.OK {
				answers(t, what+": Wake", task.Wake(why), wake)
			}
		}
		stands(t, what, r, ready, parked)
		answers(t, what+": Over", task.Over(), over)
		answers(t, what+": Running", r.Running(), running)
	}
}

// P15.4, P15.5: the errors of a task that is not running, in another one's turn and outside of one.
func TestRefusedOutside(t *testing.T) {
	r := New()
	over := spawn(t, r, nothing)
	waits := spawn(t, r, parks)
	answers(t, "Run", r.Run(nil, 2), 2)
	fresh, yielded := spawn(t, r, nothing), spawn(t, r, yields)
	answers(t, "Step", r.Step(1), true)
	all := func(where string) {
		t.Helper()
		refusedTask(t, where+": over", over, api.ErrOver, api.ErrOver)
		refusedTask(t, where+": parked", waits, api.ErrOver, api.OK)
		refusedTask(t, where+": ready", fresh, api.ErrOver, api.ErrOver)
		refusedTask(t, where+": ready again", yielded, api.ErrOver, api.ErrOver)
	}
	all("outside")
	within(t, r, func(self *Task) {
		all("another one's turn")
		self.Yield(func() { all("another one's second turn") })
		all("another one's turn, behind its Yield")
	})
	answers(t, "Step", r.Step(2), true)
	answers(t, "Wake", waits.Wake(1), api.OK)
	refusedTask(t, "woken", waits, api.ErrOver, api.ErrOver)
	answers(t, "Run", r.Run([]uint64{0, 1, 1}, 3), 3)
	refusedTask(t, "over", fresh, api.ErrOver, api.ErrOver)
	refusedTask(t, "over behind a Wake", waits, api.ErrOver, api.ErrOver)
	refusedTask(t, "still ready", yielded, api.ErrOver, api.ErrOver)
	stands(t, "at last", r, []int{3}, nil)
}

// P15.4: in one turn a task says once how it goes on, in each order; what it said first holds.
func TestRefusedWithin(t *testing.T) {
	r := New()
	var turns []string
	note := func(what string) func() { return func() { turns = append(turns, what) } }
	first := map[string]func(self *Task) api.Errno{
		"Yield": func(self *Task) api.Errno { return self.Yield(note("Yield")) },
		"Park":  func(self *Task) api.Errno { return self.Park(func(why int) { note(fmt.Sprint("Park ", why))() }) },
		"Wake": func(self *Task) api.Errno {
			e := self.Park(func(why int) { note(fmt.Sprint("Wake ", why))() })
			return e + self.Wake(9)
		},
	}
	for name, say := range first {
		turns = nil
		task := within(t, r, func(self *Task) {
			answers(t, name+": Yield of nothing", self.Yield(nil), api.ErrNil)
			answers(t, name+": Park of nothing", self.Park(nil), api.ErrNil)
			answers(t, name+": Wake", self.Wake(3), api.ErrOver)
			answers(t, name, say(self), api.OK)
			wake := api.ErrOver
			if name == "Park" {
				wake = api.OK
			}
			refusedTask(t, name, self, api.ErrBusy, wake)
		})
		refusedTask(t, name+", behind the turn", task, api.ErrOver, api.OK)
		if name == "Park" {
			answers(t, name+": Wake", task.Wake(4), api.OK)
		} else {
			answers(t, name+": Wake", task.Wake(4), api.ErrOver)
		}
		answers(t, name+": Run", r.Run(nil, 9), 1)
		lists(t, name, turns, map[string]string{"Yield": "Yield", "Park": "Park 4", "Wake": "Wake 9"}[name])
		answers(t, name+": Over", task.Over(), true)
	}
}

// P15.4: each turn may say anew how it goes on: any row of Yields, Parks, and Parks that are woken in the turn.
func TestEachTurnAnew(t *testing.T) {
	for code := range 3 * 3 * 3 * 3 {
		r := New()
		var got, want []int
		left := code
		turns := 0
		var say func(self *Task, why int)
		say = func(self *Task, why int) {
			got = append(got, why)
			kind := left % 3
			left /= 3
			if turns++; turns > 4 {
				return
			}
			switch kind {
			case 0:
				want = append(want, -1)
				answers(t, "Yield", self.Yield(func() { say(self, -1) }), api.OK)
			case 1:
				want = append(want, 7)
				answers(t, "Park", self.Park(func(why int) { say(self, why) }), api.OK)
			case 2:
				want = append(want, 100+turns)
				answers(t, "Park", self.Park(func(why int) { say(self, why) }), api.OK)
				answers(t, "Wake", self.Wake(100+turns), api.OK)
			}
		}
		want = append(want, 0)
		task := spawn(t, r, func(self *Task) { say(self, 0) })
		for range 5 {
			answers(t, "Over", task.Over(), false)
			answers(t, "Step", r.Step(0), true)
			task.Wake(7)
		}
		lists(t, fmt.Sprint("row ", code), got, want...)
		answers(t, "Over", task.Over(), true)
		answers(t, "Step", r.Step(0), false)
	}
}

// P15.5: whoever wakes it, whatever the why, the task gets ready behind all others, and its function is handed the why, once.
func TestWake(t *testing.T) {
	for _, why := range []int{0, 1, -1, 7, 150, math.MaxInt32, math.MaxInt, math.MinInt} {
		for _, inTurn := range []bool{false, true} {
			r := New()
			var whys []int
			task := spawn(t, r, func(self *Task) { self.Park(func(why int) { whys = append(whys, why) }) })
			spawn(t, r, yields)
			spawn(t, r, parks)
			answers(t, "Run", r.Run(nil, 3), 3)
			if inTurn {
				within(t, r, func(self *Task) { answers(t, "Wake", task.Wake(why), api.OK) })
			} else {
				answers(t, "Wake", task.Wake(why), api.OK)
			}
			stands(t, "woken", r, []int{1, 0}, []int{2})
			answers(t, "again", task.Wake(why+1), api.ErrOver)
			stands(t, "woken", r, []int{1, 0}, []int{2})
			answers(t, "not in the call", len(whys), 0)
			answers(t, "Run", r.Run([]uint64{1, 0, 0}, 3), 3)
			lists(t, "whys", whys, why)
			answers(t, "Over", task.Over(), true)
		}
	}
}

// P15.5: a task that parked in this very turn is woken in it, by itself, and by a function that it calls.
func TestWakeInThisTurn(t *testing.T) {
	r := New()
	var whys []int
	task := spawn(t, r, func(self *Task) {
		answers(t, "ahead of Park", self.Wake(1), api.ErrOver)
		self.Park(func(why int) { whys = append(whys, why) })
		stands(t, "parked", r, []int{1}, []int{0})
		answers(t, "Wake", self.Wake(2), api.OK)
		stands(t, "woken", r, []int{1, 0}, nil)
		answers(t, "twice", self.Wake(3), api.ErrOver)
		answers(t, "Park again", self.Park(func(int) {}), api.ErrBusy)
		answers(t, "Yield", self.Yield(func() {}), api.ErrBusy)
		answers(t, "Over", self.Over(), false)
		answers(t, "no turn within it", len(whys), 0)
		spawn(t, r, nothing)
		stands(t, "who comes then stands behind it", r, []int{1, 0, 2}, nil)
	})
	spawn(t, r, nothing)
	answers(t, "Step", r.Step(0), true)
	stands(t, "behind the turn", r, []int{1, 0, 2}, nil)
	answers(t, "Run", r.Run(nil, 9), 3)
	lists(t, "whys", whys, 2)
	answers(t, "Over", task.Over(), true)
}

// P15.5: those who are woken stand in the order in which they were woken.
func TestWakeOrder(t *testing.T) {
	r, tasks := of(t, 6, parks)
	r.Run(nil, 6)
	stands(t, "all wait", r, nil, numbers(0, 6))
	for i, id := range []int{4, 0, 5, 2} {
		answers(t, "Wake", tasks[id].Wake(i), api.OK)
	}
	stands(t, "woken", r, []int{4, 0, 5, 2}, []int{1, 3})
}

// P15.6: whether a task is running: outside of turns, within one, whatever it has said, and behind it.
func TestRunning(t *testing.T) {
	r := New()
	answers(t, "new", r.Running(), false)
	task := spawn(t, r, func(self *Task) {
		answers(t, "nothing is said", r.Running(), true)
		self.Park(func(int) {
			answers(t, "woken", r.Running(), true)
			self.Yield(func() { answers(t, "the last turn", r.Running(), true) })
			answers(t, "yielded", r.Running(), true)
		})
		answers(t, "parked", r.Running(), true)
	})
	answers(t, "ready", r.Running(), false)
	for i := range 3 {
		answers(t, "Step", r.Step(0), true)
		answers(t, "behind it", r.Running(), false)
		answers(t, "Over", task.Over(), i == 2)
		task.Wake(0)
		answers(t, "woken", r.Running(), false)
	}
	answers(t, "none", r.Step(0), false)
	answers(t, "behind none", r.Running(), false)
}

// P15.6: Parked is rising, however many parked in whatever order, each time that it is asked.
func TestParkedRising(t *testing.T) {
	for _, count := range []int{1, 2, 3, 9, 100, 256} {
		r, tasks := of(t, count, parks)
		next := row(uint64(count))
		for left := count; left > 0; left-- {
			answers(t, "Step", r.Step(uint64(next(1000))), true)
			parked := r.Parked()
			answers(t, "how many", len(parked), count-left+1)
			answers(t, "rising", slices.IsSorted(parked), true)
			lists(t, "asked again", r.Parked(), parked...)
			for _, id := range parked {
				answers(t, "one that is ready", slices.Contains(r.Ready(), id), false)
			}
		}
		stands(t, "all", r, nil, numbers(0, count))
		for i := range count {
			answers(t, "Wake", tasks[count-1-i].Wake(0), api.OK)
			lists(t, "the rest", r.Parked(), numbers(0, count-1-i)...)
		}
	}
}

// P15.6: a task is over behind the turn in which it says nothing, not ahead of its end; it stays so.
func TestOver(t *testing.T) {
	r := New()
	task := spawn(t, r, func(self *Task) {
		answers(t, "within the first turn", self.Over(), false)
		self.Yield(func() {
			answers(t, "within the last turn", self.Over(), false)
			answers(t, "Id", self.Id(), 0)
			answers(t, "Runtime", self.Runtime(), r)
		})
	})
	answers(t, "new", task.Over(), false)
	answers(t, "Step", r.Step(0), true)
	answers(t, "yielded", task.Over(), false)
	answers(t, "Step", r.Step(0), true)
	for range 3 {
		answers(t, "over", task.Over(), true)
		answers(t, "Id", task.Id(), 0)
		answers(t, "Runtime", task.Runtime(), r)
		answers(t, "Wake", task.Wake(0), api.ErrOver)
		answers(t, "Step", r.Step(0), false)
		within(t, r, func(self *Task) { answers(t, "another one's turn", task.Over(), true) })
	}
}

// P15.7: in each Step one function is called, once, while no other one is running; who is over is never called again.
func TestOneFunctionAStep(t *testing.T) {
	for seed := range uint64(30) {
		next := row(seed)
		r := New()
		calls, inside := 0, 0
		var tasks []*Task
		var over []bool
		var say func(self *Task)
		say = func(self *Task) {
			calls++
			inside++
			answers(t, "running at a time", inside, 1)
			answers(t, "one that is over", over[self.Id()], false)
			r.Step(uint64(next(9)))
			switch next(5) {
			case 0:
				over[self.Id()] = true
			case 1, 2:
				self.Yield(func() { say(self) })
			default:
				self.Park(func(int) { say(self) })
			}
			if len(tasks) > 0 {
				tasks[next(len(tasks))].Wake(next(9))
			}
			r.Run(nil, 3)
			inside--
		}
		for range 600 {
			if next(4) == 0 {
				if task, e := r.Spawn(say); e == api.OK {
					tasks, over = append(tasks, task), append(over, false)
				}
			}
			was := calls
			if r.Step(uint64(next(1000))) {
				was++
			}
			answers(t, "calls", calls, was)
			for id, task := range tasks {
				answers(t, "Over", task.Over(), over[id])
			}
		}
	}
}

// Two runtimes are apart: a turn of the one may step the other, each with its own pick; a task of the one is woken in a turn of the other.
func TestTwoRuntimes(t *testing.T) {
	outer, inner := New(), New()
	var whys []int
	waits := spawn(t, outer, func(self *Task) { self.Park(func(why int) { whys = append(whys, why) }) })
	answers(t, "Step", outer.Step(0), true)
	spawn(t, inner, func(self *Task) {
		answers(t, "the inner one's Running", inner.Running(), true)
		answers(t, "the inner one's choice", inner.Choice(10), 5)
		answers(t, "the outer one's choice", outer.Choice(10), 8)
		answers(t, "the outer one's Step", outer.Step(0), false)
		answers(t, "Wake", waits.Wake(3), api.OK)
		stands(t, "the outer one", outer, []int{0}, nil)
	})
	spawn(t, outer, func(self *Task) {
		answers(t, "the inner one's Running", inner.Running(), false)
		answers(t, "the inner one's choice", inner.Choice(10), 0)
		answers(t, "the outer one's choice", outer.Choice(10), 9)
		answers(t, "the inner one's Step", inner.Step(75), true)
		answers(t, "the outer one's choice", outer.Choice(10), 7)
		answers(t, "the outer one's Running", outer.Running(), true)
		answers(t, "Yield", self.Yield(func() {}), api.OK)
	})
	answers(t, "Step", outer.Step(789), true)
	stands(t, "the outer one", outer, []int{0, 1}, nil)
	stands(t, "the inner one", inner, nil, nil)
	answers(t, "Run", outer.Run(nil, 9), 2)
	lists(t, "whys", whys, 3)
}

// noRuntime says that a runtime is none: each call answers zeros, or ErrNil.
func noRuntime(t *testing.T, what string, r *Runtime) {
	t.Helper()
	for range 2 {
		for _, f := range []func(*Task){nil, func(*Task) { t.Errorf("%s: a turn", what) }} {
			task, e := r.Spawn(f)
			answers(t, what+": Spawn", e, api.ErrNil)
			answers(t, what+": Spawn's task", task, nil)
		}
		for _, p := range picksOf(2) {
			answers(t, what+": Step", r.Step(p), false)
			answers(t, what+": Run", r.Run([]uint64{p}, 4), 0)
			answers(t, what+": Run", r.Run(nil, math.MaxInt), 0)
		}
		for _, n := range []int{math.MinInt, -1, 0, 1, 7, math.MaxInt} {
			answers(t, what+": Choice", r.Choice(n), 0)
		}
		answers(t, what+": Made", r.Made(), false)
		answers(t, what+": Running", r.Running(), false)
		stands(t, what, r, nil, nil)
	}
}

// noTask says that a task is none: each call answers zeros, or ErrNil.
func noTask(t *testing.T, what string, task *Task) {
	t.Helper()
	called := func() { t.Errorf("%s: a turn", what) }
	for range 2 {
		answers(t, what+": Yield", task.Yield(called), api.ErrNil)
		answers(t, what+": Yield of nothing", task.Yield(nil), api.ErrNil)
		answers(t, what+": Park", task.Park(func(int) { called() }), api.ErrNil)
		answers(t, what+": Park of nothing", task.Park(nil), api.ErrNil)
		for _, why := range []int{0, 7, -1, math.MaxInt} {
			answers(t, what+": Wake", task.Wake(why), api.ErrNil)
		}
		answers(t, what+": Id", task.Id(), 0)
		answers(t, what+": Runtime", task.Runtime(), nil)
		answers(t, what+": Over", task.Over(), false)
	}
}

// R5: no runtime, and such as New did not answer; a copy of one that it did is none, and leaves the first as it was.
func TestNoRuntime(t *testing.T) {
	noRuntime(t, "nil", nil)
	noRuntime(t, "a zero", &Runtime{})
	var field struct{ r Runtime }
	noRuntime(t, "a field", &field.r)
	r, tasks := of(t, 3, parks)
	answers(t, "Step", r.Step(1), true)
	copied := *r
	noRuntime(t, "a copy", &copied)
	stands(t, "what was copied", r, []int{0, 2}, []int{1})
	within(t, r, func(self *Task) {
		copied := *r
		noRuntime(t, "a copy within a turn", &copied)
		answers(t, "Running", r.Running(), true)
	})
	answers(t, "Wake", tasks[1].Wake(0), api.OK)
	noRuntime(t, "a copy of what went on", &copied)
	answers(t, "Run", r.Run(nil, 9), 5-2)
	laid := New()
	*laid = *r
	noRuntime(t, "one that a copy was laid over", laid)
}

// R5: no task, and such as Spawn did not answer; a copy of one that it did is none, however that stands.
func TestNoTask(t *testing.T) {
	noTask(t, "nil", nil)
	noTask(t, "a zero", &Task{})
	var field struct{ t Task }
	noTask(t, "a field", &field.t)
	r := New()
	spawn(t, r, nothing)
	task := spawn(t, r, func(self *Task) {
		copied := *self
		noTask(t, "a copy of a running one", &copied)
		answers(t, "Park", self.Park(func(int) {}), api.OK)
		copied = *self
		noTask(t, "a copy of one that parked in its turn", &copied)
	})
	check := func(what string) {
		t.Helper()
		copied := *task
		noTask(t, what, &copied)
	}
	check("a copy of a ready one")
	answers(t, "Step", r.Step(1), true)
	check("a copy of a parked one")
	stands(t, "parked", r, []int{0}, []int{1})
	answers(t, "Wake", task.Wake(0), api.OK)
	check("a copy of a woken one")
	answers(t, "Run", r.Run(nil, 9), 2)
	check("a copy of one that is over")
	answers(t, "Over", task.Over(), true)
}

// scribble writes over a list and its spare room.
func scribble(list []int) {
	list = list[:cap(list)]
	for i := range list {
		list[i] = -33
	}
}

// goesOn are things that may be done to a runtime, with a list in hand that it answered.
func goesOn() map[string]func(r *Runtime, tasks []*Task) {
	return map[string]func(r *Runtime, tasks []*Task){
		"spawn": func(r *Runtime, tasks []*Task) { r.Spawn(nothing) },
		"step":  func(r *Runtime, tasks []*Task) { r.Step(0) },
		"run":   func(r *Runtime, tasks []*Task) { r.Run([]uint64{5, 1}, 6) },
		"wake": func(r *Runtime, tasks []*Task) {
			for _, task := range tasks {
				task.Wake(0)
			}
		},
		"all": func(r *Runtime, tasks []*Task) { r.Run(nil, 999) },
	}
}

// R3: lists that were answered are apart from the runtime and from each other, their spare room too.
func TestHandedOut(t *testing.T) {
	for _, count := range []int{0, 1, 2, 3, 4, 5, 6, 8, 9, 17, 34, 64, 65, 130, 254, 255, 256} {
		for name, change := range goesOn() {
			what := fmt.Sprintf("%d, %s", count, name)
			r, tasks := of(t, count, parks)
			r.Run([]uint64{1}, count/2)
			ready, parked := r.Ready(), r.Parked()
			one, two, three, four := r.Ready(), r.Ready(), r.Parked(), r.Parked()
			scribble(one)
			scribble(three)
			stands(t, what, r, ready, parked)
			lists(t, what, two, ready...)
			lists(t, what, four, parked...)
			readyRoom, parkedRoom := slices.Clone(two[:cap(two)]), slices.Clone(four[:cap(four)])
			change(r, tasks)
			lists(t, what+": a list has changed", two[:cap(two)], readyRoom...)
			lists(t, what+": a list has changed", four[:cap(four)], parkedRoom...)
			ready, parked = r.Ready(), r.Parked()
			scribble(two)
			lists(t, what+": the other kind", four[:cap(four)], parkedRoom...)
			scribble(four)
			stands(t, what, r, ready, parked)
		}
	}
}

// R2: calls that are refused, or tell false or 0, leave all that later calls could tell: the turns behind them are the same ones.
func TestNothingChanges(t *testing.T) {
	refusals := func(r *Runtime, tasks []*Task) {
		r.Spawn(nil)
		r.Run(nil, 0)
		r.Run([]uint64{1}, -1)
		r.Choice(0)
		r.Choice(-3)
		if r.Running() {
			r.Step(1)
			r.Run([]uint64{1}, 3)
		} else {
			r.Choice(5)
		}
		for _, task := range tasks {
			task.Yield(nil)
			task.Park(nil)
			if !slices.Contains(r.Parked(), task.Id()) {
				task.Wake(1)
			}
		}
	}
	history := func(refuse func(r *Runtime, tasks []*Task)) string {
		var told []string
		r := New()
		var tasks []*Task
		var say func(self *Task, n int)
		say = func(self *Task, n int) {
			refuse(r, tasks)
			kind := r.Choice(4)
			told = append(told, fmt.Sprint(self.Id(), n, kind))
			switch kind {
			case 0:
				self.Park(func(why int) { say(self, why) })
			case 1, 2:
				self.Yield(func() { say(self, n+1) })
			}
			refuse(r, tasks)
			told = append(told, fmt.Sprint(r.Choice(7), r.Choice(11)))
		}
		for i := range 400 {
			refuse(r, tasks)
			if i%9 == 0 {
				task := spawn(t, r, func(self *Task) { say(self, 0) })
				tasks = append(tasks, task)
				told = append(told, fmt.Sprint("new ", task.Id()))
			}
			told = append(told, fmt.Sprint(r.Step(uint64(i)*0x9E3779B97F4A7C15), r.Ready(), r.Parked()))
			if i%5 == 0 {
				tasks[i*7%len(tasks)].Wake(i)
			}
		}
		return fmt.Sprint(told)
	}
	answers(t, "a history with refusals", history(refusals), history(func(*Runtime, []*Task) {}))
}

// face are the calls that a type has.
func face(of any) []string {
	var calls []string
	kind := reflect.TypeOf(of)
	for i := range kind.NumMethod() {
		calls = append(calls, kind.Method(i).Name)
	}
	return calls
}

// Runtimes and tasks have the chapter's calls alone, and no field that another package could set.
func TestFace(t *testing.T) {
	lists(t, "a runtime's calls", face(New()), "Choice", "Made", "Parked", "Ready", "Run", "Running", "Spawn", "Step")
	lists(t, "a task's calls", face(&Task{}), "Id", "Over", "Park", "Runtime", "Wake", "Yield")
	for _, kind := range []reflect.Type{reflect.TypeOf(Runtime{}), reflect.TypeOf(Task{})} {
		for i := range kind.NumField() {
			answers(t, kind.Field(i).Name, kind.Field(i).IsExported(), false)
		}
	}
}
