package csp

import (
	"conduit/api"
)

// Task: see the chapter. What it leaves to be done tells how it stands: within its turn, that it has said how it goes on; outside of one, a task that has left nothing is over.
type Task struct {
	// self is the task's own address: a task that was copied as a value is none that Spawn answered.
	self    *Task
	runtime *Runtime
	id      int
	// next is what its next turn will call: who has it is ready.
	next func()
	// woken is what its next turn will call with the why of whoever wakes it: who has it is parked.
	woken func(why int)
}

// Id: see the chapter, P15.1.
func (t *Task) Id() int {
	if !t.made() {
		return 0
	}
	return t.id
}

// Runtime: see the chapter, P15.6.
func (t *Task) Runtime() *Runtime {
	if !t.made() {
		return nil
	}
	return t.runtime
}

// Yield: see the chapter, P15.4.
func (t *Task) Yield(then func()) api.Errno {
	if e := t.refused(then == nil); e != api.OK {
		return e
	}
	t.getReady(then)
	return api.OK
}

// Park: see the chapter, P15.4.
func (t *Task) Park(then func(why int)) api.Errno {
	if e := t.refused(then == nil); e != api.OK {
		return e
	}
	t.woken = then
	return api.OK
}

// Wake: see the chapter, P15.5.
func (t *Task) Wake(why int) api.Errno {
	switch {
	case !t.made():
		return api.ErrNil
	case t.woken == nil:
		return api.ErrOver
	}
	then := t.woken
	t.woken = nil
	t.getReady(func() { then(why) })
	return api.OK
}

// Over: see the chapter, P15.6.
func (t *Task) Over() bool {
	return t.made() && !t.isRunning() && !t.goesOn()
}

func (t *Task) made() bool {
	return t != nil && t.self == t
}

func (t *Task) isRunning() bool {
	return t.runtime.running == t
}

func (t *Task) goesOn() bool {
	return t.next != nil || t.woken != nil
}

// refused is why a task may not say now how it goes on, if it may not.
func (t *Task) refused(nothing bool) api.Errno {
	switch {
	case !t.made() || nothing:
		return api.ErrNil
	case !t.isRunning():
		return api.ErrOver
	case t.goesOn():
		return api.ErrBusy
	}
	return api.OK
}

// getReady puts a task behind all that are ready.
func (t *Task) getReady(next func()) {
	t.next = next
	t.runtime.ready.Ready(t.id)
}
