package flow

import (
	"conduit/api"
	"conduit/chans"
	"conduit/csp"
)

// channels are n new ones, where the runtime and the size were found to be right.
func channels[T any](r *csp.Runtime, n, size int) []*chans.Chan[T] {
	var l []*chans.Chan[T]
	for range n {
		c, _ := chans.Make[T](r, size)
		l = append(l, c)
	}
	return l
}

// begin makes a task of each of these, in order, or none.
func begin(r *csp.Runtime, tasks ...func(t *csp.Task)) api.Errno {
	// Whether there is room for one Spawn itself tells.
	if len(tasks) > 1 && !hasRoom(r, len(tasks)) {
		return api.ErrFull
	}
	for _, task := range tasks {
		if _, e := r.Spawn(task); e != api.OK {
			return e
		}
	}
	return api.OK
}

// hasRoom tells whether n tasks can be made. The running one counts beside those that are ready and parked: whether it is among them already, since it has said how it goes on, no call tells, and a task that was made could not be taken back.
func hasRoom(r *csp.Runtime, n int) bool {
	there := len(r.Ready()) + len(r.Parked())
	if r.Running() {
		there++
	}
	return there+n <= api.MaxTasks
}

// feed sends what is left to out, and closes it behind the last one's. What was sent is kept no longer.
func feed[T any](t *csp.Task, left []T, out *chans.Chan[T]) {
	if len(left) == 0 {
		out.Close()
		return
	}
	x := left[0]
	clear(left[:1])
	chans.Send(t, out, x, func(ok bool) {
		if ok {
			feed(t, left[1:], out)
		}
	})
}

// each hands take the things that t is told at in, one by one, and by which it goes on to the next one; when t is told false, end is called, and t is over.
func each[T any](t *csp.Task, in *chans.Chan[T], take func(x T, on func()), end func()) {
	chans.Recv(t, in, func(x T, ok bool) {
		if !ok {
			end()
			return
		}
		take(x, func() { each(t, in, take, end) })
	})
}

// line is what a task does that receives from in and sends what it is told, as f makes it, to outs by turns; when it is told false, here or there, it calls end, and is over.
func line[A, B any](in *chans.Chan[A], f func(x A) B, outs []*chans.Chan[B], end func()) func(t *csp.Task) {
	next := 0
	return func(t *csp.Task) {
		each(t, in, func(x A, on func()) {
			out := outs[next]
			next = (next + 1) % len(outs)
			chans.Send(t, out, f(x), func(ok bool) {
				if !ok {
					end()
					return
				}
				on()
			})
		}, end)
	}
}

// closeAll closes those that are open, in order; of the others Close changes nothing.
func closeAll[T any](l []*chans.Chan[T]) {
	for _, c := range l {
		c.Close()
	}
}

// same is f of a line that changes nothing.
func same[T any](x T) T {
	return x
}
