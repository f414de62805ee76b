package plog

import (
	"bytes"
	"fmt"
	"math/bits"
	"regexp"
	"slices"
	"strconv"
	"strings"
	"testing"

	"conduit/api"
	"conduit/file"
	"conduit/segment"
)

// model is the log named log as the chapter's words tell it, step by step, with its bodies in one list. A segment is opened anew for each thing that is done with it: of a clean file that makes no operation.
type model struct {
	disk   *file.Disk
	most   int
	first  int
	heads  []int
	bodies [][]byte
	synced int
	broken bool
}

// ownNumbers are the numbers of the files of the log named log, rising.
func ownNumbers(d *file.Disk) []int {
	form := regexp.MustCompile(`\Alog-([1-9][0-9]{0,17})\z`)
	var numbers []int
	for _, name := range d.Names() {
		if m := form.FindStringSubmatch(name); m != nil {
			n, _ := strconv.Atoi(m[1])
			numbers = append(numbers, n)
		}
	}
	slices.Sort(numbers)
	return numbers
}

func nameOf(head int) string { return "log-" + fmt.Sprint(head) }

func modelOf(d *file.Disk, most, first int) (*model, api.Errno) {
	m := &model{disk: d, most: most, first: first}
	for i, head := range ownNumbers(d) {
		s, e := segment.Open(d, nameOf(head))
		if e != api.OK {
			return nil, e
		}
		if i == 0 {
			m.first = head
		} else if head != m.last()+1 {
			return nil, api.ErrLog
		}
		m.heads = append(m.heads, head)
		for k := range s.Count() {
			b, _ := s.Read(k)
			m.bodies = append(m.bodies, b)
		}
	}
	m.synced = m.last()
	return m, api.OK
}

func (m *model) last() int { return m.first + len(m.bodies) - 1 }

func (m *model) lastHead() int { return m.heads[len(m.heads)-1] }

func (m *model) lastSize() int {
	size := 0
	for _, b := range m.bodies[m.lastHead()-m.first:] {
		size += 4 + len(b)
	}
	return size
}

// at does something with the segment that begins with head.
func (m *model) at(head int, do func(s *segment.Segment) api.Errno) api.Errno {
	s, e := segment.Open(m.disk, nameOf(head))
	if e == api.OK {
		e = do(s)
	}
	m.broken = m.broken || e != api.OK
	return e
}

func (m *model) append(body []byte) (int, api.Errno) {
	switch {
	case m.broken:
		return 0, api.ErrIO
	case len(body) > 65536:
		return 0, api.ErrLong
	}
	heads := slices.Clone(m.heads)
	if len(heads) == 0 || m.lastSize() >= m.most {
		if len(heads) > 0 {
			if e := m.at(m.lastHead(), (*segment.Segment).Sync); e != api.OK {
				return 0, e
			}
		}
		heads = append(heads, m.last()+1)
	}
	e := m.at(heads[len(heads)-1], func(s *segment.Segment) api.Errno {
		_, e := s.Append(body)
		return e
	})
	if e != api.OK {
		return 0, e
	}
	m.heads, m.bodies = heads, append(m.bodies, bytes.Clone(body))
	return m.last(), api.OK
}

func (m *model) sync() api.Errno {
	if m.broken {
		return api.ErrIO
	}
	if len(m.heads) > 0 {
		if e := m.at(m.lastHead(), (*segment.Segment).Sync); e != api.OK {
			return e
		}
	}
	m.synced = m.last()
	return api.OK
}

func (m *model) remove(head int) api.Errno {
	e := m.disk.Remove(nameOf(head))
	if e == api.OK {
		e = m.disk.SyncNames()
	}
	m.broken = m.broken || e != api.OK
	return e
}

func (m *model) truncate(index int) api.Errno {
	switch {
	case m.broken:
		return api.ErrIO
	case index < m.first-1 || index > m.last():
		return api.ErrGone
	}
	heads := slices.Clone(m.heads)
	for len(heads) > 0 && heads[len(heads)-1] > index {
		if e := m.remove(heads[len(heads)-1]); e != api.OK {
			return e
		}
		heads = heads[:len(heads)-1]
	}
	if len(heads) > 0 {
		last := heads[len(heads)-1]
		e := m.at(last, func(s *segment.Segment) api.Errno { return s.Truncate(index - last + 1) })
		if e != api.OK {
			return e
		}
	}
	m.heads, m.bodies = heads, m.bodies[:index-m.first+1]
	m.synced = min(m.synced, index)
	return api.OK
}

func (m *model) drop(index int) api.Errno {
	switch {
	case m.broken:
		return api.ErrIO
	case index > m.last()+1:
		return api.ErrGone
	case len(m.heads) < 2 || m.heads[1] > index:
		return api.OK
	}
	if e := m.sync(); e != api.OK {
		return e
	}
	heads := slices.Clone(m.heads)
	for len(heads) >= 2 && heads[1] <= index {
		if e := m.remove(heads[0]); e != api.OK {
			return e
		}
		heads = heads[1:]
	}
	m.bodies = m.bodies[heads[0]-m.first:]
	m.heads, m.first = heads, heads[0]
	return api.OK
}

func (m *model) restart(first int) api.Errno {
	switch {
	case m.broken:
		return api.ErrIO
	case first < 1 || first > 1<<40:
		return api.ErrArg
	}
	for _, head := range slices.Backward(m.heads) {
		if e := m.remove(head); e != api.OK {
			return e
		}
	}
	m.heads, m.bodies, m.first, m.synced = nil, nil, first, first-1
	return api.OK
}

// state is all that a log tells.
type state struct {
	first, last, synced int
	heads               []int
	bodies              [][]byte
	broken              bool
}

func (m *model) state() state {
	return state{m.first, m.last(), m.synced, slices.Clone(m.heads), slices.Clone(m.bodies), m.broken}
}

// has says that a log tells just that.
func has(t *testing.T, what string, l *Log, want state) {
	t.Helper()
	if l.First() != want.first || l.Last() != want.last || l.Synced() != want.synced || l.Broken() != want.broken || !slices.Equal(l.Segments(), want.heads) {
		t.Fatalf("%s: First %d, Last %d, Synced %d, Segments %v, Broken %v, want %d, %d, %d, %v, %v", what,
			l.First(), l.Last(), l.Synced(), l.Segments(), l.Broken(), want.first, want.last, want.synced, want.heads, want.broken)
	}
	got, e := l.Read(want.first, len(want.bodies)+1)
	if e != api.OK || !sameBodies(got, want.bodies) {
		t.Fatalf("%s: Read(%d) = %d bodies, %d, want %d: %s", what, want.first, len(got), e, len(want.bodies), unlike(got, want.bodies))
	}
	for _, from := range []int{want.first - 1, want.last + 2} {
		if got, e := l.Read(from, 1); e != api.ErrGone || got != nil {
			t.Fatalf("%s: Read(%d) = %x, %d", what, from, got, e)
		}
	}
}

func sameBodies(a, b [][]byte) bool {
	return slices.EqualFunc(a, b, bytes.Equal)
}

// unlike tells the first place where two lists part.
func unlike(a, b [][]byte) string {
	for i := range min(len(a), len(b)) {
		if !bytes.Equal(a[i], b[i]) {
			return fmt.Sprintf("at %d: %.40x, want %.40x", i, a[i], b[i])
		}
	}
	return fmt.Sprintf("%d of them, want %d", len(a), len(b))
}

// row tells numbers without a pattern, always the same ones.
func row(seed uint64) func(below int) int {
	return func(below int) int {
		seed = seed*6364136223846793005 + 1442695040888963407
		return int((bits.Reverse64(seed) ^ seed>>7) % uint64(below))
	}
}

// bodyOf is a body of that size, unlike those of other numbers; some are noughts, or look like frames or sectors.
func bodyOf(number, size int) []byte {
	body := make([]byte, size)
	for i := range body {
		switch number % 4 {
		case 0, 1:
			body[i] = byte(7*i + 31*number + 1)
		case 2:
			body[i] = []byte{0, 0, 0, 1}[i%4]
		case 3:
			body[i] = []byte{62, 0}[i%2]
		}
	}
	if size > 0 {
		body[size-1] = byte(number)
	}
	return body
}

// keepings are lists for Crash: each mix of up to six steps; of more, some.
func keepings(steps int) [][]bool {
	var lists [][]bool
	for mix := range 1 << min(steps, 6) {
		list := make([]bool, steps)
		for i := range list {
			list[i] = mix>>(i%6)&1 == 1
		}
		lists = append(lists, list)
	}
	return lists
}

// view is what a disk tells without changing.
func view(d *file.Disk) string {
	var told strings.Builder
	fmt.Fprint(&told, d.Names(), d.Pending())
	for _, name := range d.Names() {
		b, e := d.Read(name)
		fmt.Fprintf(&told, " %s %d ", name, e)
		told.Write(b)
	}
	return told.String()
}

// sameDisk holds two disks against each other, behind each crash too.
func sameDisk(t *testing.T, what string, got, want *file.Disk) {
	t.Helper()
	if g, w := view(got), view(want); g != w {
		t.Fatalf("%s:\n got %q\nwant %q", what, g, w)
	}
	for _, keep := range keepings(got.Pending()) {
		g, w := got.Copy(), want.Copy()
		g.Crash(keep)
		w.Crash(keep)
		if view(g) != view(w) {
			t.Fatalf("%s, crash %v:\n got %q\nwant %q", what, keep, view(g), view(w))
		}
	}
}

// unplug takes a disk's power away.
func unplug(d *file.Disk) {
	d.Arm(0)
	d.SyncNames()
}

// sut is a log and its model, each on a disk of its own, which are told the same.
type sut struct {
	most  int
	disk  *file.Disk
	log   *Log
	ref   *file.Disk
	mod   *model
	count int
	kept  keeping
}

// keeping is what P10.6 says of what a crash leaves.
type keeping struct {
	// from is the index of the first of bodies, which may be told.
	from   int
	bodies [][]byte
	// least is the index up to which they must be told.
	least int
	// begins are the indexes that the log may begin with: more than one, while a DropBefore is under way.
	begins []int
	// ends are the segments' first indexes while a Restart is under way: the log may end ahead of one of them.
	ends []int
	// half: the disk, with its power, failed within an Open, a TruncateAfter or a Restart.
	half bool
	// failed: the log was opened anew then, without a crash or a sync of names and sectors between; till the next crash P10.6 is not asked.
	failed bool
}

func begun(t *testing.T, most int) *sut {
	t.Helper()
	s := &sut{most: most, disk: file.New(), ref: file.New()}
	s.open(t)
	return s
}

func (s *sut) agree(t *testing.T, what string, got, want api.Errno) {
	t.Helper()
	if got != want {
		t.Fatalf("%s: %d, want %d", what, got, want)
	}
	if g, w := view(s.disk), view(s.ref); g != w {
		t.Fatalf("%s:\n got %q\nwant %q", what, g, w)
	}
	has(t, what, s.log, s.mod.state())
}

// open opens it anew; beside an error the log stays the one that was.
func (s *sut) open(t *testing.T) api.Errno {
	t.Helper()
	log, got := Open(s.disk, "log", s.most, 1)
	mod, want := modelOf(s.ref, s.most, 1)
	if got != want || (log != nil) != (want == api.OK) {
		t.Fatalf("Open: %v, %d, want %d", log != nil, got, want)
	}
	switch {
	case got == api.OK:
		s.log, s.mod = log, mod
		s.kept.failed = s.kept.failed || s.kept.half
		if !s.kept.failed {
			s.kept.tells(t, "Open", mod)
		}
		// Without power a log without files may be opened, whose files a crash brings back.
		if s.kept.failed || len(mod.heads) == 0 && !s.comesBack() {
			s.kept = keeping{from: mod.first, bodies: slices.Clone(mod.bodies), least: mod.first - 1, begins: []int{mod.first}, failed: s.kept.failed}
		}
	case got != api.ErrDown:
		s.kept.half = true
	}
	if s.log != nil {
		s.agree(t, "Open", got, want)
	}
	return got
}

// comesBack says whether a crash may leave files of the log: if one does, one does that keeps a single step at most.
func (s *sut) comesBack() bool {
	for i := range s.disk.Pending() + 1 {
		c := s.disk.Copy()
		c.Crash(append(make([]bool, i), true))
		if len(ownNumbers(c)) > 0 {
			return true
		}
	}
	return false
}

func (s *sut) append(t *testing.T, size int) api.Errno {
	t.Helper()
	body := bodyOf(s.count, size)
	s.count++
	index, got := s.log.Append(body)
	wanted, want := s.mod.append(body)
	if index != wanted {
		t.Fatalf("Append: %d, want %d", index, wanted)
	}
	if got == api.OK {
		s.kept.bodies = append(s.kept.bodies, body)
	}
	s.agree(t, fmt.Sprintf("Append(%d bytes)", size), got, want)
	return got
}

func (s *sut) sync(t *testing.T) api.Errno {
	t.Helper()
	got, want := s.log.Sync(), s.mod.sync()
	if got == api.OK && len(s.mod.heads) > 0 {
		s.kept.least = s.mod.last()
	}
	s.agree(t, "Sync", got, want)
	return got
}

func (s *sut) truncate(t *testing.T, index int) api.Errno {
	t.Helper()
	none := s.mod.broken || index < s.mod.first-1 || index > s.mod.last() || len(s.mod.heads) == 0
	last, heads := s.mod.last(), len(s.mod.heads)
	got, want := s.log.TruncateAfter(index), s.mod.truncate(index)
	switch {
	case none:
	case got == api.OK:
		s.kept.bodies = s.kept.bodies[: index-s.kept.from+1 : index-s.kept.from+1]
		if index < last {
			s.kept.least = index
		}
		if len(s.mod.heads) < heads {
			s.kept.namesSynced(s.mod.first)
		}
	default:
		s.kept.least = min(s.kept.least, index)
		s.kept.half = s.kept.half || got != api.ErrDown
	}
	s.agree(t, fmt.Sprintf("TruncateAfter(%d)", index), got, want)
	return got
}

func (s *sut) drop(t *testing.T, index int) api.Errno {
	t.Helper()
	was := s.mod.broken
	heads, first, last := slices.Clone(s.mod.heads), s.mod.first, s.mod.last()
	got, want := s.log.DropBefore(index), s.mod.drop(index)
	switch {
	case was || index > last+1 || len(heads) < 2 || heads[1] > index:
	case got == api.OK:
		s.kept.namesSynced(s.mod.first)
		s.kept.least = last
	case !slices.Contains(s.disk.Names(), nameOf(first)):
		// One was taken away: the log was synced ahead of it.
		s.kept.least = last
		for _, head := range heads {
			if head > first && head <= index {
				s.kept.begins = append(s.kept.begins, head)
			}
		}
	}
	s.agree(t, fmt.Sprintf("DropBefore(%d)", index), got, want)
	return got
}

func (s *sut) restart(t *testing.T, first int) api.Errno {
	t.Helper()
	none := s.mod.broken || first < 1 || first > 1<<40
	heads := slices.Clone(s.mod.heads)
	got, want := s.log.Restart(first), s.mod.restart(first)
	switch {
	case none || len(heads) == 0 && s.comesBack():
	case got == api.OK:
		s.kept = keeping{from: first, least: first - 1, begins: []int{first}, failed: s.kept.failed}
	default:
		s.kept.ends = heads
		s.kept.half = s.kept.half || got != api.ErrDown
	}
	s.agree(t, fmt.Sprintf("Restart(%d)", first), got, want)
	return got
}

// namesSynced: which segments there are is durable; the log begins with first.
func (k *keeping) namesSynced(first int) {
	k.bodies = k.bodies[first-k.from:]
	k.from, k.begins = first, []int{first}
}

// tells says what P10.6 does of what is told.
func (k keeping) tells(t *testing.T, what string, m *model) {
	t.Helper()
	if len(m.heads) > 0 && len(k.begins) > 0 && !slices.Contains(k.begins, m.first) {
		t.Fatalf("%s: First %d, want one of %v", what, m.first, k.begins)
	}
	if k.least >= k.from && m.last() < k.least && !slices.Contains(k.ends, m.last()+1) && (len(m.heads) > 0 || len(k.ends) == 0) {
		t.Fatalf("%s: Last %d, want %d or more, or one ahead of %v", what, m.last(), k.least, k.ends)
	}
	for i, body := range m.bodies {
		at := m.first + i - k.from
		if at < 0 || at >= len(k.bodies) || !bytes.Equal(body, k.bodies[at]) {
			t.Fatalf("%s: index %d is %.40x, which was not appended there", what, m.first+i, body)
		}
	}
}

// opens says that a log opens on a disk behind a crash, and tells what P10.6 says; it answers what it tells.
func (k keeping) opens(t *testing.T, what string, d *file.Disk, most int) *model {
	t.Helper()
	c, ref := d.Copy(), d.Copy()
	l, e := Open(c, "log", most, 1)
	m, want := modelOf(ref, most, 1)
	if e != want {
		t.Fatalf("%s: Open: %d, want %d", what, e, want)
	}
	if k.failed {
		return m
	}
	if e != api.OK {
		t.Fatalf("%s: Open: %d", what, e)
	}
	has(t, what, l, m.state())
	k.tells(t, what, m)
	return m
}

func (s *sut) crash(t *testing.T, keep []bool) {
	t.Helper()
	s.disk.Crash(keep)
	s.ref.Crash(keep)
	m := s.kept.opens(t, fmt.Sprint("crash ", keep), s.disk, s.most)
	if m == nil {
		// A disk failed, and what is left is no log: all begins anew.
		s.disk, s.ref = file.New(), file.New()
		m, _ = modelOf(file.New(), s.most, 1)
	}
	// Nothing is unsynced now.
	s.kept = keeping{from: m.first, bodies: m.bodies, least: m.last(), begins: []int{m.first}}
}

// run does one line: append size, sync, truncate index, shorten by, drop index, droplast by, restart first, open, arm n, fail n e, crash 101.
func (s *sut) run(t *testing.T, line string) api.Errno {
	t.Helper()
	words := strings.Split(line, " ")
	number := func(i int) int {
		n, err := strconv.Atoi(words[i])
		if err != nil {
			t.Fatal(err)
		}
		return n
	}
	switch words[0] {
	case "append":
		return s.append(t, number(1))
	case "sync":
		return s.sync(t)
	case "truncate":
		return s.truncate(t, number(1))
	case "shorten":
		return s.truncate(t, s.mod.last()-number(1))
	case "empty":
		return s.truncate(t, s.mod.first-1)
	case "drop":
		return s.drop(t, number(1))
	case "droplast":
		return s.drop(t, s.mod.last()+1-number(1))
	case "restart":
		return s.restart(t, number(1))
	case "open":
		return s.open(t)
	case "arm":
		s.ref.Arm(number(1))
		return s.disk.Arm(number(1))
	case "fail":
		s.ref.Fail(number(1), api.Errno(number(2)))
		return s.disk.Fail(number(1), api.Errno(number(2)))
	case "crash":
		var keep []bool
		for _, c := range words[1] {
			keep = append(keep, c == '1')
		}
		s.crash(t, keep)
		return api.OK
	}
	t.Fatalf("no such line: %q", line)
	return 0
}

// script does lines, parted by ';', on a new disk; each is answered OK.
func script(t *testing.T, most int, lines string) *sut {
	t.Helper()
	s := begun(t, most)
	for _, line := range strings.Split(lines, "; ") {
		if line == "" {
			continue
		}
		if e := s.run(t, line); e != api.OK {
			t.Fatalf("%s: %s: %d", lines, line, e)
		}
	}
	return s
}
