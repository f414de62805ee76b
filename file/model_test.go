package file

import (
	"bytes"
	"fmt"
	"math/bits"
	"sort"
	"testing"

	"conduit/api"
)

// calls is what a disk and its model can both be asked.
type calls interface {
	Put(name string, sector int, data []byte) api.Errno
	Cut(name string, sectors int) api.Errno
	Rename(from, to string) api.Errno
	Remove(name string) api.Errno
	Sync(name string) api.Errno
	SyncNames() api.Errno
	Read(name string) ([]byte, api.Errno)
	Names() []string
	Pending() int
	Arm(ops int) api.Errno
	Fail(ops int, e api.Errno) api.Errno
	Crash(keep []bool) api.Errno
}

// event is a step as the chapter's Words tell it.
type event struct {
	what string
	file int
	a, b string
	at   int
	data []byte
}

func (e event) named() bool {
	return e.what == "made" || e.what == "renamed" || e.what == "removed"
}

// model keeps nothing but what happened: what is durable are the events that were carried out, and names and bytes are made anew from events at each question.
type model struct {
	settled, open []event
	made          int
	gone          bool
	// arms and fails list what each operation to come is answered, as far as that is set.
	arms, fails []api.Errno
}

// replay answers who has which name, and each file's bytes, those of files without a name too.
func replay(events ...[]event) (map[string]int, map[int][]byte) {
	names, data := map[string]int{}, map[int][]byte{}
	for _, list := range events {
		for _, e := range list {
			mine := names[e.a] == e.file
			switch {
			case e.what == "made":
				names[e.a] = e.file
			case e.what == "put":
				if less := e.at*64 - len(data[e.file]); less > 0 {
					data[e.file] = append(data[e.file], make([]byte, less)...)
				}
				have := data[e.file]
				behind := have[min(len(have), e.at*64+64):]
				data[e.file] = bytes.Join([][]byte{have[:e.at*64], e.data, behind}, nil)
			case e.what == "cut":
				data[e.file] = append([]byte(nil), data[e.file][:min(len(data[e.file]), e.at*64)]...)
			case e.what == "renamed" && mine:
				delete(names, e.a)
				names[e.b] = e.file
			case e.what == "removed" && mine:
				delete(names, e.a)
			}
		}
	}
	return names, data
}

func (m *model) stands() (map[string]int, map[int][]byte) {
	return replay(m.settled, m.open)
}

// stopped answers the operation's error, and counts it.
func (m *model) stopped() api.Errno {
	if m.gone {
		return api.ErrDown
	}
	first := func(list *[]api.Errno) api.Errno {
		if len(*list) == 0 {
			return api.OK
		}
		e := (*list)[0]
		*list = (*list)[1:]
		return e
	}
	down, failed := first(&m.arms), first(&m.fails)
	if down != api.OK {
		m.gone = true
		return down
	}
	return failed
}

func (m *model) Put(name string, sector int, data []byte) api.Errno {
	names, all := m.stands()
	file, there := names[name]
	if len(name) == 0 || len(name) > 64 || len(data) != 64 || sector < 0 || sector*64 > len(all[file]) {
		return api.ErrArg
	}
	if sector == 4096 || !there && len(names) > 255 {
		return api.ErrFull
	}
	if e := m.stopped(); e != api.OK {
		return e
	}
	if !there {
		m.made++
		file = m.made
		m.open = append(m.open, event{what: "made", file: file, a: name})
	}
	m.open = append(m.open, event{what: "put", file: file, at: sector, data: append([]byte(nil), data...)})
	return api.OK
}

func (m *model) Cut(name string, sectors int) api.Errno {
	names, all := m.stands()
	file, there := names[name]
	if !there {
		return api.ErrFile
	}
	if sectors < 0 || sectors*64 > len(all[file]) {
		return api.ErrArg
	}
	e := m.stopped()
	if e == api.OK {
		m.open = append(m.open, event{what: "cut", file: file, at: sectors})
	}
	return e
}

func (m *model) Rename(from, to string) api.Errno {
	names, _ := m.stands()
	file, there := names[from]
	if len(to) == 0 || len(to) > 64 {
		return api.ErrArg
	}
	if !there {
		return api.ErrFile
	}
	e := m.stopped()
	if e == api.OK && from != to {
		m.open = append(m.open, event{what: "renamed", file: file, a: from, b: to})
	}
	return e
}

func (m *model) Remove(name string) api.Errno {
	names, _ := m.stands()
	file, there := names[name]
	if !there {
		return api.ErrFile
	}
	e := m.stopped()
	if e == api.OK {
		m.open = append(m.open, event{what: "removed", file: file, a: name})
	}
	return e
}

func (m *model) Sync(name string) api.Errno {
	names, _ := m.stands()
	file, there := names[name]
	if !there {
		return api.ErrFile
	}
	e := m.stopped()
	if e != api.OK {
		return e
	}
	waits := false
	for _, v := range m.open {
		waits = waits || v.what == "made" && v.file == file
	}
	var left []event
	for _, v := range m.open {
		if v.named() && waits || !v.named() && v.file == file {
			m.settled = append(m.settled, v)
		} else {
			left = append(left, v)
		}
		if v.what == "made" && v.file == file {
			waits = false
		}
	}
	m.open = left
	return api.OK
}

func (m *model) SyncNames() api.Errno {
	e := m.stopped()
	if e != api.OK {
		return e
	}
	var left []event
	for _, v := range m.open {
		if v.named() {
			m.settled = append(m.settled, v)
		} else {
			left = append(left, v)
		}
	}
	m.open = left
	return api.OK
}

func (m *model) Read(name string) ([]byte, api.Errno) {
	names, all := m.stands()
	file, there := names[name]
	if !there {
		return nil, api.ErrFile
	}
	if m.gone {
		return nil, api.ErrDown
	}
	return all[file], api.OK
}

func (m *model) Names() []string {
	names, _ := m.stands()
	var list []string
	for name := range names {
		list = append(list, name)
	}
	sort.Strings(list)
	return list
}

func (m *model) Pending() int {
	return len(m.open)
}

func (m *model) Arm(ops int) api.Errno {
	if ops < 0 {
		return api.ErrArg
	}
	m.arms = append(make([]api.Errno, ops), api.ErrDown)
	return api.OK
}

func (m *model) Fail(ops int, e api.Errno) api.Errno {
	if ops < 0 || e != 4 && e != 5 {
		return api.ErrArg
	}
	m.fails = append(make([]api.Errno, ops), e)
	return api.OK
}

func (m *model) Crash(keep []bool) api.Errno {
	for i, v := range m.open {
		if i < len(keep) && keep[i] {
			m.settled = append(m.settled, v)
		}
	}
	m.forget()
	m.open, m.arms, m.fails, m.gone = nil, nil, nil, false
	return api.OK
}

// forget writes what is durable as the shortest history that makes it.
func (m *model) forget() {
	names, all := replay(m.settled)
	m.settled = nil
	for name, file := range names {
		m.settled = append(m.settled, event{what: "made", file: file, a: name})
		for at := 0; at*64 < len(all[file]); at++ {
			m.settled = append(m.settled, event{what: "put", file: file, at: at, data: all[file][at*64 : at*64+64]})
		}
	}
}

func (m *model) Copy() *model {
	c := *m
	c.settled = append([]event(nil), m.settled...)
	c.open = append([]event(nil), m.open...)
	return &c
}

// row tells numbers without a pattern, always the same ones.
func row(seed uint64) func(below int) int {
	return func(below int) int {
		seed = seed*6364136223846793005 + 1442695040888963407
		return int((bits.Reverse64(seed) ^ seed>>7) % uint64(below))
	}
}

// view is all that a disk tells without changing.
func view(d calls) string {
	told := fmt.Sprint(d.Names(), d.Pending())
	for _, name := range d.Names() {
		b, e := d.Read(name)
		told += fmt.Sprintf(" %s %d %x", name, e, b)
	}
	return told
}

func same(t *testing.T, what string, d, m calls) {
	t.Helper()
	if got, want := view(d), view(m); got != want {
		t.Fatalf("%s:\n got %s\nwant %s", what, got, want)
	}
}

// crashes are lists for Crash: none, all, each step alone, all but one, and each mix if the steps are few.
func crashes(steps int) [][]bool {
	all := make([]bool, steps)
	for i := range all {
		all[i] = true
	}
	lists := [][]bool{nil, make([]bool, steps), all, append(all[:steps:steps], true, false, true)}
	for i := range steps {
		alone := make([]bool, i+1)
		alone[i] = true
		but := append([]bool(nil), all...)
		but[i] = false
		lists = append(lists, alone, but, all[:i])
	}
	if steps > 7 {
		return lists
	}
	for mix := range 1 << steps {
		list := make([]bool, steps)
		for i := range list {
			list[i] = mix>>i&1 == 1
		}
		lists = append(lists, list)
	}
	return lists
}

// crashSame holds behind each crash, of copies, what the disk tells against what the model does.
func crashSame(t *testing.T, what string, d *Disk, m *model) {
	t.Helper()
	before := view(d)
	for _, keep := range crashes(d.Pending()) {
		c, w := d.Copy(), m.Copy()
		if e := c.Crash(keep); e != api.OK {
			t.Fatalf("%s: Crash(%v): %d", what, keep, e)
		}
		w.Crash(keep)
		same(t, fmt.Sprintf("%s, Crash(%v)", what, keep), c, w)
	}
	if got := view(d); got != before {
		t.Fatalf("%s: changed by its copies: %s, was %s", what, got, before)
	}
}
