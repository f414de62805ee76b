package plog

import (
	"bytes"
	"fmt"
	"math"
	"slices"
	"strconv"
	"strings"
	"testing"

	"conduit/api"
	"conduit/file"
	"conduit/segment"
)

// lay puts a file of bodies of these sizes on a disk, synced.
func lay(t *testing.T, d *file.Disk, name string, sizes ...int) {
	t.Helper()
	d.Put(name, 0, make([]byte, 64))
	d.Cut(name, 0)
	s, e := segment.Open(d, name)
	if e != api.OK {
		t.Fatal(e)
	}
	for i, size := range sizes {
		if _, e := s.Append(bodyOf(i+len(name), size)); e != api.OK {
			t.Fatal(e)
		}
	}
	if e := s.Sync(); e != api.OK || d.Pending() != 0 {
		t.Fatal(e, d.Pending())
	}
}

// soil puts a sector behind a file's last one, synced: the file is not clean.
func soil(t *testing.T, d *file.Disk, name string) {
	t.Helper()
	held, _ := d.Read(name)
	if e := d.Put(name, len(held)/64, make([]byte, 64)); e != api.OK {
		t.Fatal(e)
	}
	d.Sync(name)
}

// bodies are those of a log to which bodies of these sizes were appended from the first on.
func bodies(sizes ...int) [][]byte {
	var list [][]byte
	for i, size := range sizes {
		list = append(list, bodyOf(i, size))
	}
	return list
}

// filled is a log of so many bytes a segment, that begins with first, with bodies of these sizes.
func filled(t *testing.T, most, first int, sizes ...int) (*file.Disk, *Log) {
	t.Helper()
	d := file.New()
	l, e := Open(d, "log", most, first)
	if e != api.OK {
		t.Fatal(e)
	}
	for i, body := range bodies(sizes...) {
		if index, e := l.Append(body); index != first+i || e != api.OK {
			t.Fatalf("Append %d: %d, %d", i, index, e)
		}
	}
	return d, l
}

// five is a log of five bodies, at 1, 2, at 3, 4, and at 5.
func five(t *testing.T) (*file.Disk, *Log) {
	t.Helper()
	return filled(t, 100, 1, 60, 61, 62, 63, 64)
}

var fiveBodies = bodies(60, 61, 62, 63, 64)

func TestExamples(t *testing.T) {
	d, l := filled(t, 100, 1)
	has(t, "new", l, state{first: 1})
	for i, body := range bodies(60, 60, 60) {
		if n, e := l.Append(body); n != i+1 || e != api.OK {
			t.Error(n, e)
		}
	}
	has(t, "three", l, state{1, 3, 0, []int{1, 3}, bodies(60, 60, 60), false})
	if got := d.Names(); !slices.Equal(got, []string{"log-1", "log-3"}) {
		t.Error(got)
	}
	if got, e := l.Read(2, 5); e != api.OK || !sameBodies(got, bodies(60, 60, 60)[1:]) {
		t.Error(got, e)
	}
	if got, e := l.Read(5, 1); e != api.ErrGone || got != nil {
		t.Error(got, e)
	}
	if e := l.TruncateAfter(2); e != api.OK {
		t.Error(e)
	}
	has(t, "truncated", l, state{1, 2, 0, []int{1}, bodies(60, 60), false})
	if n, e := l.Append([]byte("x")); n != 3 || e != api.OK {
		t.Error(n, e)
	}
	has(t, "appended", l, state{1, 3, 0, []int{1, 3}, append(bodies(60, 60), []byte("x")), false})
	if e := l.DropBefore(3); e != api.OK {
		t.Error(e)
	}
	has(t, "dropped", l, state{3, 3, 3, []int{3}, [][]byte{[]byte("x")}, false})
	if got := d.Names(); !slices.Equal(got, []string{"log-3"}) {
		t.Error(got)
	}
	if got, e := l.Read(2, 1); e != api.ErrGone || got != nil {
		t.Error(got, e)
	}
	if e := l.Restart(9); e != api.OK {
		t.Error(e)
	}
	has(t, "begun anew", l, state{first: 9, last: 8, synced: 8})
	if n, e := l.Append(nil); n != 9 || e != api.OK {
		t.Error(n, e)
	}
	has(t, "nine", l, state{9, 9, 8, []int{9}, [][]byte{nil}, false})
}

// P10.1: what may be handed in, and which error comes first.
func TestOpenArguments(t *testing.T) {
	right := file.New()
	moved := *file.New()
	for _, disk := range []struct {
		what string
		d    *file.Disk
		e    api.Errno
	}{{"a disk", right, api.OK}, {"nil", nil, api.ErrNil}, {"not made", new(file.Disk), api.ErrNil}, {"moved", &moved, api.ErrNil}} {
		for name, goodName := range map[string]bool{"": false, "n": true, strings.Repeat("n", 40): true, strings.Repeat("n", 41): false, strings.Repeat("n", 64): false, "-": true, "\x00": true, "ä-1": true} {
			for most, goodMost := range map[int]bool{math.MinInt: false, -1: false, 0: false, 1: true, 2: true, math.MaxInt: true} {
				for first, goodFirst := range map[int]bool{math.MinInt: false, -1: false, 0: false, 1: true, 2: true, 1 << 40: true, 1<<40 + 1: false, math.MaxInt: false} {
					want := disk.e
					if !goodName || !goodMost || !goodFirst {
						want = api.ErrArg
					}
					l, e := Open(disk.d, name, most, first)
					if e != want || (l != nil) != (want == api.OK) {
						t.Fatalf("%s, %q, %d, %d: %v, %d, want %d", disk.what, name, most, first, l != nil, e, want)
					}
					if e == api.OK {
						has(t, "no files", l, state{first: first, last: first - 1, synced: first - 1})
					}
				}
			}
		}
	}
	if len(right.Names()) != 0 || right.Pending() != 0 {
		t.Error(right.Names(), right.Pending())
	}
	// An argument that may not be comes ahead of files that are no log, and of a disk without power.
	lay(t, right, "log-1", 1)
	lay(t, right, "log-9", 1)
	for _, down := range []bool{false, true} {
		want := api.ErrLog
		if down {
			unplug(right)
			want = api.ErrDown
		}
		for _, c := range []struct {
			name        string
			most, first int
			e           api.Errno
		}{{"log", 1, 1, want}, {"log", 0, 1, api.ErrArg}, {"log", 1, 0, api.ErrArg}, {"log", 1, 1<<40 + 1, api.ErrArg}, {"", 1, 1, api.ErrArg}} {
			if l, e := Open(right, c.name, c.most, c.first); l != nil || e != c.e {
				t.Errorf("%v: %v, %d", c, l != nil, e)
			}
		}
	}
}

// The longest name, with the longest number.
func TestLongNames(t *testing.T) {
	d := file.New()
	name := strings.Repeat("n", 40)
	lay(t, d, name+"-999999999999999998", 5, 6)
	l, e := Open(d, name, 1000, 1)
	if e != api.OK {
		t.Fatal(e)
	}
	has(t, "opened", l, state{999999999999999998, 999999999999999999, 999999999999999999, []int{999999999999999998}, [][]byte{bodyOf(59, 5), bodyOf(60, 6)}, false})
	if n, e := l.Append([]byte("x")); n != 1000000000000000000 || e != api.OK {
		t.Error(n, e)
	}
	if got, e := l.Read(1000000000000000000, 9); e != api.OK || !sameBodies(got, [][]byte{[]byte("x")}) {
		t.Error(got, e)
	}
	l, e = Open(d, strings.Repeat("m", 40), 1, 1<<40)
	if e != api.OK {
		t.Fatal(e)
	}
	for i := range 3 {
		if n, e := l.Append([]byte("y")); n != 1<<40+i || e != api.OK {
			t.Error(n, e)
		}
	}
	if got := l.Segments(); !slices.Equal(got, []int{1 << 40, 1<<40 + 1, 1<<40 + 2}) || !slices.Contains(d.Names(), strings.Repeat("m", 40)+"-1099511627778") {
		t.Error(got, d.Names())
	}
}

// Which files are the log's: each alone.
func TestOwnFiles(t *testing.T) {
	for _, c := range []struct {
		name, file string
		number     int
	}{
		{"log", "log-1", 1}, {"log", "log-9", 9}, {"log", "log-10", 10}, {"log", "log-90", 90},
		{"log", "log-1099511627777", 1<<40 + 1},
		{"log", "log-12345678901234567", 12345678901234567},
		{"log", "log-123456789012345678", 123456789012345678},
		{"log", "log-999999999999999999", 999999999999999999},
		{"log", "log-1234567890123456789", 0}, {"log", "log-1000000000000000000", 0}, {"log", "log-99999999999999999999", 0},
		{"log", "log-18446744073709551617", 0},
		{"log", "log-0", 0}, {"log", "log-00", 0}, {"log", "log-01", 0}, {"log", "log-000000000000000001", 0}, {"log", "log-0000000000000000001", 0},
		{"log", "log-", 0}, {"log", "log", 0}, {"log", "log1", 0}, {"log", "log_1", 0}, {"log", "1", 0}, {"log", "-1", 0},
		{"log", "log-+1", 0}, {"log", "log--1", 0}, {"log", "log- 1", 0}, {"log", "log-1 ", 0}, {"log", "log-1\n", 0}, {"log", "log-\x001", 0},
		{"log", "log-1a", 0}, {"log", "log-a1", 0}, {"log", "log-1a1", 0}, {"log", "log-a", 0}, {"log", "log-1_000", 0}, {"log", "log-1.0", 0}, {"log", "log-0x1", 0}, {"log", "log-1e3", 0},
		{"log", "log-1/", 0}, {"log", "log-1:", 0}, {"log", "log-/1", 0}, {"log", "log-:", 0}, {"log", "log-1~", 0}, {"log", "log.v", 0},
		{"log", "log-1\u0661", 0}, {"log", "log-\u0661", 0}, {"log", "log-1\xff", 0}, {"log", "log-\xb1", 0},
		{"log", "log-1-2", 0}, {"log", "log-1-", 0}, {"log", "logs-1", 0}, {"log", "log2-1", 0}, {"log", "lo-1", 0}, {"log", "Log-1", 0}, {"log", "xlog-1", 0}, {"log", " log-1", 0},
		{"log-1", "log-1-2", 2}, {"log-1", "log-1", 0}, {"log-1", "log-1-1-2", 0}, {"log-1", "log-12", 0},
		{"-", "--5", 5}, {"-", "-5", 0}, {"-", "---5", 0}, {"--", "---5", 5}, {"-1", "-1-5", 5}, {"-1", "-15", 0},
		{"a-", "a--3", 3}, {"a", "a--3", 0}, {"1", "1-2", 2}, {"1", "11-2", 0}, {"\xff", "\xff-2", 2},
	} {
		d := file.New()
		lay(t, d, c.file, 3, 4)
		want := state{first: 77, last: 76, synced: 76}
		if c.number > 0 {
			want = state{c.number, c.number + 1, c.number + 1, []int{c.number}, [][]byte{bodyOf(len(c.file), 3), bodyOf(len(c.file)+1, 4)}, false}
		}
		l, e := Open(d, c.name, 100, 77)
		if e != api.OK {
			t.Fatalf("%q of %q: %d", c.file, c.name, e)
		}
		has(t, fmt.Sprintf("%q of %q", c.file, c.name), l, want)
	}
}

// Files of others are left as they are, whatever is done with the log.
func TestFilesOfOthers(t *testing.T) {
	d := file.New()
	others := []string{"log", "log-", "log-0", "log-01", "log-+3", "log-3a", "log-3-4", "logs-3", "lo-3", "log-3~", "log-3.v", "log-1-1", "log-1000000000000000000"}
	for _, name := range others {
		lay(t, d, name, 3, 70)
		soil(t, d, name)
	}
	tell := func() string {
		var told string
		for _, name := range others {
			b, e := d.Read(name)
			told += fmt.Sprint(name, b, e)
		}
		return told
	}
	was := tell()
	l, e := Open(d, "log", 10, 1)
	for range 3 {
		for _, body := range fiveBodies {
			l.Append(body)
		}
		l.Sync()
		l.DropBefore(l.First() + 1)
		l.TruncateAfter(l.Last() - 1)
		if l, e = Open(d, "log", 10, 1); e != api.OK || l.Last()-l.First() != 2 {
			t.Fatal(e, l.First(), l.Last())
		}
		l.Restart(3)
	}
	if tell() != was || len(d.Names()) != len(others) || l.Broken() {
		t.Error(d.Names())
	}
}

// Three logs of one disk, the name of one the beginning of another's.
func TestLogsBesideEachOther(t *testing.T) {
	d := file.New()
	names := []string{"a", "a-1", "a-1-2"}
	var logs []*Log
	for i, name := range names {
		l, e := Open(d, name, 60, i+1)
		if e != api.OK {
			t.Fatal(e)
		}
		logs = append(logs, l)
	}
	for n := range 9 {
		for i, l := range logs {
			if index, e := l.Append(bodyOf(10*i+n, 30)); index != i+1+n || e != api.OK {
				t.Fatal(index, e)
			}
		}
	}
	logs[1].DropBefore(6)
	logs[2].TruncateAfter(5)
	for i, l := range logs {
		l.Sync()
		m, e := Open(d, names[i], 60, 1)
		if e != api.OK || m.First() != l.First() || m.Last() != l.Last() || !slices.Equal(m.Segments(), l.Segments()) {
			t.Fatal(names[i], e)
		}
		want, _ := l.Read(l.First(), 99)
		if got, e := m.Read(m.First(), 99); e != api.OK || !sameBodies(got, want) || !bytes.Equal(got[0], bodyOf(10*i+l.First()-i-1, 30)) {
			t.Error(names[i], unlike(got, want))
		}
	}
	if logs[0].First() != 1 || logs[0].Last() != 9 || logs[1].First() != 6 || logs[1].Last() != 10 || logs[2].Last() != 5 {
		t.Error(logs[0].First(), logs[0].Last(), logs[1].First(), logs[1].Last(), logs[2].Last())
	}
}

// Files by rising numbers, not by their names as texts; gaps and overlaps.
func TestRising(t *testing.T) {
	many := func(n int) []int { return make([]int, n) }
	for _, c := range []struct {
		what  string
		files map[int][]int
		heads []int
		last  int
		e     api.Errno
	}{
		{"one", map[int][]int{7: {1, 2}}, []int{7}, 8, api.OK},
		{"one without frames", map[int][]int{7: {}}, []int{7}, 6, api.OK},
		{"unlike lengths", map[int][]int{8: {1, 2}, 10: many(90), 100: {5}, 101: {6}}, []int{8, 10, 100, 101}, 101, api.OK},
		{"nine and ten", map[int][]int{2: many(7), 9: {1}, 10: many(9), 19: {1}, 20: {0, 0}}, []int{2, 9, 10, 19, 20}, 21, api.OK},
		{"a thousand", map[int][]int{999: {1}, 1000: {1}}, []int{999, 1000}, 1000, api.OK},
		{"a last one without frames", map[int][]int{1: {1, 2}, 3: {}}, []int{1, 3}, 2, api.OK},
		{"gap", map[int][]int{1: {1, 2}, 4: {1}}, nil, 0, api.ErrLog},
		{"a great gap", map[int][]int{1: {1, 2}, 999999999999999999: {1}}, nil, 0, api.ErrLog},
		{"overlap", map[int][]int{1: {1, 2}, 2: {1}}, nil, 0, api.ErrLog},
		{"overlap by two", map[int][]int{1: {1, 2, 3}, 2: {1}}, nil, 0, api.ErrLog},
		{"one within another", map[int][]int{1: {1, 2, 3}, 2: {1}, 4: {1}}, nil, 0, api.ErrLog},
		{"gap behind", map[int][]int{1: {1, 2}, 3: {1}, 5: {1}}, nil, 0, api.ErrLog},
		{"overlap behind", map[int][]int{1: {1, 2}, 3: {1, 1}, 4: {1}}, nil, 0, api.ErrLog},
		{"gap ahead", map[int][]int{1: {1}, 3: {1, 1}, 5: {1}}, nil, 0, api.ErrLog},
		{"no frames ahead", map[int][]int{1: {}, 2: {1}}, nil, 0, api.ErrLog},
		{"no frames between", map[int][]int{1: {1, 2}, 3: {}, 4: {1}}, nil, 0, api.ErrLog},
		{"a gap behind no frames", map[int][]int{1: {1, 2}, 4: {}}, nil, 0, api.ErrLog},
		{"overlap of no frames", map[int][]int{1: {1, 2}, 2: {}}, nil, 0, api.ErrLog},
		{"gap of unlike lengths", map[int][]int{9: {1}, 11: {1}}, nil, 0, api.ErrLog},
	} {
		d := file.New()
		var want [][]byte
		for _, head := range c.heads {
			for i, size := range c.files[head] {
				want = append(want, bodyOf(i+len(nameOf(head)), size))
			}
		}
		for head, sizes := range c.files {
			lay(t, d, nameOf(head), sizes...)
		}
		was := view(d)
		l, e := Open(d, "log", 100, 77)
		if e != c.e || (l != nil) != (e == api.OK) {
			t.Fatalf("%s: %d, want %d", c.what, e, c.e)
		}
		if e == api.OK {
			has(t, c.what, l, state{c.heads[0], c.last, c.last, c.heads, want, false})
			// It goes on where it ends.
			if n, e := l.Append([]byte("z")); n != c.last+1 || e != api.OK {
				t.Errorf("%s: Append: %d, %d", c.what, n, e)
			}
		} else if view(d) != was {
			t.Errorf("%s: the disk has changed", c.what)
		}
	}
}

// op is an operation on the disk: "put log-3 1", "cut log-3 2", "sync log-3", "remove log-3", "names". What is put is that sector of the clean file of these bodies.
type op string

func (o op) do(t *testing.T, d *file.Disk, clean map[string][]byte) api.Errno {
	words := append(strings.Split(string(o), " "), "", "")
	at, _ := strconv.Atoi(words[2])
	switch words[0] {
	case "put":
		return d.Put(words[1], at, clean[words[1]][at*64:at*64+64])
	case "cut":
		return d.Cut(words[1], at)
	case "sync":
		return d.Sync(words[1])
	case "remove":
		return d.Remove(words[1])
	case "names":
		return d.SyncNames()
	}
	t.Fatalf("no such operation: %q", o)
	return 0
}

func opsOf(text string) []op {
	var ops []op
	for _, o := range strings.Split(text, ", ") {
		if o != "" {
			ops = append(ops, op(o))
		}
	}
	return ops
}

// filesOf are the clean files of a log that tells that.
func filesOf(t *testing.T, s state) map[string][]byte {
	t.Helper()
	d := file.New()
	for i, head := range s.heads {
		end := s.last + 1
		if i+1 < len(s.heads) {
			end = s.heads[i+1]
		}
		part, _ := segment.Open(d, nameOf(head))
		for _, body := range s.bodies[head-s.first : end-s.first] {
			part.Append(body)
		}
	}
	files := map[string][]byte{}
	for _, name := range d.Names() {
		files[name], _ = d.Read(name)
	}
	return files
}

// stopped says that a call makes just these operations, in this order: it is stopped at each of them, and then let through; what stands, what is unsynced and what each crash leaves must be what the operations ahead make. The call is told at which one it is stopped.
func stopped(t *testing.T, what string, build func() (*file.Disk, func(n int, want api.Errno) api.Errno), ops []op, clean map[string][]byte) {
	t.Helper()
	for n := range len(ops) + 1 {
		for _, fail := range []api.Errno{api.ErrIO, api.ErrFull, api.ErrDown} {
			d, call := build()
			ref := d.Copy()
			for _, o := range ops[:n] {
				if e := o.do(t, ref, clean); e != api.OK {
					t.Fatalf("%s: %s: %d", what, o, e)
				}
			}
			want := api.OK
			if n < len(ops) {
				want = fail
			}
			if fail == api.ErrDown {
				d.Arm(n)
			} else {
				d.Fail(n, fail)
			}
			if got := call(n, want); got != want {
				t.Fatalf("%s, stopped at %d of %v: %d, want %d", what, n, ops, got, want)
			}
			if want == api.OK {
				// Whatever is armed is still to come, or more operations were made than these.
				if e := d.SyncNames(); e != fail {
					t.Fatalf("%s: more operations than %v", what, ops)
				}
				if fail == api.ErrDown {
					continue
				}
			} else if want == api.ErrDown {
				unplug(ref)
			}
			sameDisk(t, fmt.Sprintf("%s, %d of %v", what, n, ops), d, ref)
		}
	}
}

// isBroken says that a log is, and that it refuses what it must, whatever else were wrong.
func isBroken(t *testing.T, what string, l *Log) {
	t.Helper()
	if !l.Broken() {
		t.Fatalf("%s: not broken", what)
	}
	for _, size := range []int{0, 1, api.MaxFrame, api.MaxFrame + 1} {
		if n, e := l.Append(make([]byte, size)); n != 0 || e != api.ErrIO {
			t.Fatalf("%s: Append(%d bytes) of a broken one: %d, %d", what, size, n, e)
		}
	}
	if e := l.Sync(); e != api.ErrIO {
		t.Fatalf("%s: Sync of a broken one: %d", what, e)
	}
	for _, n := range []int{math.MinInt, -1, 0, 1, l.First() - 2, l.First() - 1, l.Last(), l.Last() + 1, l.Last() + 2, 1 << 40, 1<<40 + 1, math.MaxInt} {
		if e := l.TruncateAfter(n); e != api.ErrIO {
			t.Fatalf("%s: TruncateAfter(%d) of a broken one: %d", what, n, e)
		}
		if e := l.DropBefore(n); e != api.ErrIO {
			t.Fatalf("%s: DropBefore(%d) of a broken one: %d", what, n, e)
		}
		if e := l.Restart(n); e != api.ErrIO {
			t.Fatalf("%s: Restart(%d) of a broken one: %d", what, n, e)
		}
	}
	if !l.Broken() {
		t.Fatalf("%s: broken no more", what)
	}
}

// does does the call of a line: append size, sync, truncate index, drop index, restart first.
func does(l *Log, line string) (int, api.Errno) {
	word, number, _ := strings.Cut(line, " ")
	n, _ := strconv.Atoi(number)
	switch word {
	case "append":
		return l.Append(bodyOf(99, n))
	case "truncate":
		return 0, l.TruncateAfter(n)
	case "drop":
		return 0, l.DropBefore(n)
	case "restart":
		return 0, l.Restart(n)
	}
	return 0, l.Sync()
}

// P10.2, P10.4: which operations each call makes, in which order; an error of each of them; what the log tells then: beside an error what it told ahead, and that it is broken.
func TestOperations(t *testing.T) {
	fives := []int{60, 61, 62, 63, 64}
	for _, c := range []struct {
		sizes []int
		call  string
		ops   string
		// Behind the call, of a log whose Synced was 1 less than First:
		first, last, synced int
		heads               []int
	}{
		{nil, "append 0", "put log-1 0", 1, 1, 0, []int{1}},
		{nil, "append 1", "put log-1 0", 1, 1, 0, []int{1}},
		{nil, "append 60", "put log-1 0, put log-1 1", 1, 1, 0, []int{1}},
		{[]int{1}, "append 0", "put log-1 0", 1, 2, 0, []int{1}},
		{[]int{95}, "append 0", "put log-1 1", 1, 2, 0, []int{1}},
		{[]int{96}, "append 0", "sync log-1, put log-2 0", 1, 2, 0, []int{1, 2}},
		{[]int{97}, "append 0", "sync log-1, put log-2 0", 1, 2, 0, []int{1, 2}},
		{[]int{200}, "append 59", "sync log-1, put log-2 0, put log-2 1", 1, 2, 0, []int{1, 2}},
		{[]int{0, 91}, "append 300", "put log-1 1, put log-1 2, put log-1 3, put log-1 4, put log-1 5, put log-1 6", 1, 3, 0, []int{1}},
		{[]int{0, 92}, "append 1", "sync log-1, put log-3 0", 1, 3, 0, []int{1, 3}},
		{[]int{96, 96}, "append 1", "sync log-2, put log-3 0", 1, 3, 0, []int{1, 2, 3}},
		{fives, "append 1", "put log-5 1", 1, 6, 0, []int{1, 3, 5}},

		{nil, "sync", "", 1, 0, 0, nil},
		{[]int{1}, "sync", "sync log-1", 1, 1, 1, []int{1}},
		{[]int{96}, "sync", "sync log-1", 1, 1, 1, []int{1}},
		{fives, "sync", "sync log-5", 1, 5, 5, []int{1, 3, 5}},

		{nil, "truncate 0", "", 1, 0, 0, nil},
		{[]int{1}, "truncate 1", "", 1, 1, 0, []int{1}},
		{[]int{1}, "truncate 0", "remove log-1, names", 1, 0, 0, nil},
		{[]int{1, 2, 58}, "truncate 2", "put log-1 0, cut log-1 1, sync log-1", 1, 2, 0, []int{1}},
		{[]int{58, 1}, "truncate 1", "cut log-1 1, sync log-1", 1, 1, 0, []int{1}},
		{fives, "truncate 5", "", 1, 5, 0, []int{1, 3, 5}},
		{fives, "truncate 4", "remove log-5, names", 1, 4, 0, []int{1, 3}},
		{fives, "truncate 3", "remove log-5, names, put log-3 1, cut log-3 2, sync log-3", 1, 3, 0, []int{1, 3}},
		{fives, "truncate 2", "remove log-5, names, remove log-3, names", 1, 2, 0, []int{1}},
		{fives, "truncate 1", "remove log-5, names, remove log-3, names, put log-1 1, cut log-1 2, sync log-1", 1, 1, 0, []int{1}},
		{fives, "truncate 0", "remove log-5, names, remove log-3, names, remove log-1, names", 1, 0, 0, nil},

		{nil, "drop 1", "", 1, 0, 0, nil},
		{[]int{1, 2}, "drop 3", "", 1, 2, 0, []int{1}},
		{fives, "drop -1", "", 1, 5, 0, []int{1, 3, 5}},
		{fives, "drop 0", "", 1, 5, 0, []int{1, 3, 5}},
		{fives, "drop 1", "", 1, 5, 0, []int{1, 3, 5}},
		{fives, "drop 2", "", 1, 5, 0, []int{1, 3, 5}},
		{fives, "drop 3", "sync log-5, remove log-1, names", 3, 5, 5, []int{3, 5}},
		{fives, "drop 4", "sync log-5, remove log-1, names", 3, 5, 5, []int{3, 5}},
		{fives, "drop 5", "sync log-5, remove log-1, names, remove log-3, names", 5, 5, 5, []int{5}},
		{fives, "drop 6", "sync log-5, remove log-1, names, remove log-3, names", 5, 5, 5, []int{5}},

		{nil, "restart 1", "", 1, 0, 0, nil},
		{nil, "restart 1099511627776", "", 1 << 40, 1<<40 - 1, 1<<40 - 1, nil},
		{[]int{1}, "restart 2", "remove log-1, names", 2, 1, 1, nil},
		{fives, "restart 1", "remove log-5, names, remove log-3, names, remove log-1, names", 1, 0, 0, nil},
		{fives, "restart 7", "remove log-5, names, remove log-3, names, remove log-1, names", 7, 6, 6, nil},
	} {
		ahead := modelState(t, 100, c.sizes)
		behind := state{first: c.first, last: c.last, synced: c.synced, heads: c.heads}
		all := slices.Clone(ahead.bodies)
		index := 0
		if strings.HasPrefix(c.call, "append") {
			size, _ := strconv.Atoi(c.call[len("append "):])
			all = append(all, bodyOf(99, size))
			index = c.last
		}
		if c.first <= c.last {
			behind.bodies = all[c.first-1 : c.last]
		}
		for _, synced := range []bool{false, true} {
			build := func() (*file.Disk, func(int, api.Errno) api.Errno) {
				d, l := filled(t, 100, 1, c.sizes...)
				was, is := ahead, behind
				if synced {
					l.Sync()
					was.synced = was.last
					// What the table tells of Synced is of a log that was not.
					is.synced = min(was.last, is.last)
					if strings.HasPrefix(c.call, "restart") {
						is.synced = is.last
					}
				}
				return d, func(n int, want api.Errno) api.Errno {
					what := fmt.Sprintf("%v, %s, synced %v, stopped at %d", c.sizes, c.call, synced, n)
					has(t, what+", ahead", l, was)
					got, e := does(l, c.call)
					if want == api.OK {
						if got != index {
							t.Fatalf("%s: %d, want %d", what, got, index)
						}
						has(t, what, l, is)
						return e
					}
					if got != 0 {
						t.Fatalf("%s: %d beside an error", what, got)
					}
					was.broken = true
					// The log was synced, which the chapter names.
					if strings.HasPrefix(c.call, "drop") && n > 0 {
						was.synced = was.last
					}
					has(t, what, l, was)
					isBroken(t, what, l)
					has(t, what+", broken", l, was)
					return e
				}
			}
			stopped(t, fmt.Sprintf("%v, %s, synced %v", c.sizes, c.call, synced), build, opsOf(c.ops), filesOf(t, behind))
		}
	}
}

// modelState is what a log tells to which bodies of these sizes were appended, as the model has it.
func modelState(t *testing.T, most int, sizes []int) state {
	t.Helper()
	m, _ := modelOf(file.New(), most, 1)
	for _, body := range bodies(sizes...) {
		if _, e := m.append(body); e != api.OK {
			t.Fatal(e)
		}
	}
	return m.state()
}

// P10.1: which operations Open makes of files that are not clean, by rising numbers; an error of each of them, and files that are no log.
func TestOpenOperations(t *testing.T) {
	for _, c := range []struct {
		what  string
		files map[int][]int
		// soiled are those with a sector too many.
		soiled []int
		ops    string
		e      api.Errno
	}{
		{"clean", map[int][]int{1: {1, 2}, 3: {60}}, nil, "", api.OK},
		{"the last", map[int][]int{1: {1, 2}, 3: {60}}, []int{3}, "put log-3 1, cut log-3 2, sync log-3", api.OK},
		{"the first", map[int][]int{1: {1, 2}, 3: {60}}, []int{1}, "put log-1 0, cut log-1 1, sync log-1", api.OK},
		{"both", map[int][]int{1: {1, 2}, 3: {60}}, []int{1, 3}, "put log-1 0, cut log-1 1, sync log-1, put log-3 1, cut log-3 2, sync log-3", api.OK},
		{"nine and ten", map[int][]int{9: {58}, 10: {1}}, []int{9, 10}, "cut log-9 1, sync log-9, put log-10 0, cut log-10 1, sync log-10", api.OK},
		{"without frames", map[int][]int{4: {}}, []int{4}, "cut log-4 0, sync log-4", api.OK},
		// What is wrong with the second is told behind its opening, and ahead of the third's.
		{"gap", map[int][]int{1: {1, 2}, 4: {60}, 5: {1}}, []int{1, 4, 5}, "put log-1 0, cut log-1 1, sync log-1, put log-4 1, cut log-4 2, sync log-4", api.ErrLog},
		{"overlap", map[int][]int{1: {1, 2}, 2: {60}, 3: {1}}, []int{1, 2, 3}, "put log-1 0, cut log-1 1, sync log-1, put log-2 1, cut log-2 2, sync log-2", api.ErrLog},
		{"gap behind", map[int][]int{1: {1, 2}, 3: {60}, 5: {1}}, []int{5}, "put log-5 0, cut log-5 1, sync log-5", api.ErrLog},
	} {
		base := file.New()
		clean := map[string][]byte{}
		for head, sizes := range c.files {
			lay(t, base, nameOf(head), sizes...)
			clean[nameOf(head)], _ = base.Read(nameOf(head))
		}
		for _, head := range c.soiled {
			soil(t, base, nameOf(head))
		}
		build := func() (*file.Disk, func(int, api.Errno) api.Errno) {
			d := base.Copy()
			return d, func(n int, want api.Errno) api.Errno {
				l, e := Open(d, "log", 100, 1)
				if (l != nil) != (e == api.OK) {
					t.Fatalf("%s: %v, %d", c.what, l != nil, e)
				}
				if want == api.OK {
					if e != c.e {
						t.Fatalf("%s: %d, want %d", c.what, e, c.e)
					}
					return api.OK
				}
				return e
			}
		}
		stopped(t, c.what, build, opsOf(c.ops), clean)
	}
}

// A disk without power: files of the log cannot be read; without any there is nothing to read.
func TestOpenWithoutPower(t *testing.T) {
	d, _ := five(t)
	unplug(d)
	if l, e := Open(d, "log", 100, 1); l != nil || e != api.ErrDown {
		t.Error(l != nil, e)
	}
	l, e := Open(d, "lo", 100, 6)
	if e != api.OK {
		t.Fatal(e)
	}
	has(t, "no files", l, state{first: 6, last: 5, synced: 5})
	if e := l.Sync(); e != api.OK || l.Broken() {
		t.Error(e)
	}
	if e := l.Restart(7); e != api.OK {
		t.Error(e)
	}
	if e := l.TruncateAfter(6); e != api.OK {
		t.Error(e)
	}
	if n, e := l.Append(nil); n != 0 || e != api.ErrDown {
		t.Error(n, e)
	}
	has(t, "no power", l, state{first: 7, last: 6, synced: 6, broken: true})
	// Gaps are not told where files cannot be read.
	d = file.New()
	lay(t, d, "log-1", 1)
	lay(t, d, "log-5", 1)
	unplug(d)
	if l, e := Open(d, "log", 100, 1); l != nil || e != api.ErrDown {
		t.Error(l != nil, e)
	}
}

// What is refused comes ahead of the disk's errors, and makes no operation; it breaks nothing.
func TestRefused(t *testing.T) {
	d, l := five(t)
	was := view(d)
	for _, down := range []bool{false, true} {
		if down {
			unplug(d)
		} else {
			d.Fail(0, api.ErrIO)
		}
		for _, size := range []int{api.MaxFrame + 1, api.MaxFrame + 2, 2 * api.MaxFrame} {
			if n, e := l.Append(make([]byte, size)); n != 0 || e != api.ErrLong {
				t.Error(size, n, e)
			}
		}
		for _, index := range []int{math.MinInt, -1, 6, 7, math.MaxInt} {
			if e := l.TruncateAfter(index); e != api.ErrGone {
				t.Errorf("TruncateAfter(%d): %d", index, e)
			}
		}
		for _, index := range []int{7, 8, 1 << 40, math.MaxInt} {
			if e := l.DropBefore(index); e != api.ErrGone {
				t.Errorf("DropBefore(%d): %d", index, e)
			}
		}
		for _, index := range []int{math.MinInt, math.MinInt + 1, -1 << 62, -1, 0, 1, 2} {
			if e := l.DropBefore(index); e != api.OK {
				t.Errorf("DropBefore(%d): %d", index, e)
			}
		}
		for _, first := range []int{math.MinInt, -1, 0, 1<<40 + 1, math.MaxInt} {
			if e := l.Restart(first); e != api.ErrArg {
				t.Errorf("Restart(%d): %d", first, e)
			}
		}
		if e := l.TruncateAfter(5); e != api.OK {
			t.Error(e)
		}
		has(t, "refused", l, state{1, 5, 0, []int{1, 3, 5}, fiveBodies, false})
		if !down && (view(d) != was || d.SyncNames() != api.ErrIO) {
			t.Error("what was refused was an operation")
		}
	}
	if e := l.Sync(); e != api.ErrDown || !l.Broken() {
		t.Error(e)
	}
}

// A broken one stays so, when the disk works again, too; and does nothing on it.
func TestStaysBroken(t *testing.T) {
	for _, call := range []string{"append 1", "sync", "truncate 3", "drop 5", "restart 2"} {
		d, l := five(t)
		d.Fail(0, api.ErrFull)
		if _, e := does(l, call); e != api.ErrFull {
			t.Fatal(call, e)
		}
		was := view(d)
		want := state{1, 5, 0, []int{1, 3, 5}, fiveBodies, true}
		isBroken(t, call, l)
		has(t, call, l, want)
		if view(d) != was {
			t.Errorf("%s: a broken one did something", call)
		}
		unplug(d)
		isBroken(t, call, l)
		d.Crash(nil)
		isBroken(t, call, l)
		has(t, call, l, want)
		// Its files are opened anew.
		again, e := Open(d, "log", 100, 1)
		if e != api.OK || again.Broken() || again.Last() != 4 {
			t.Fatal(call, e)
		}
		if n, e := again.Append([]byte("x")); n != 5 || e != api.OK {
			t.Error(call, n, e)
		}
		isBroken(t, call, l)
		has(t, call, l, want)
	}
}

// P10.2: bodies at the edges.
func TestBodies(t *testing.T) {
	d, l := filled(t, 1000, 1)
	sizes := []int{0, api.MaxFrame, 0, 1, 65535, 1, 58, 62, 0}
	for i, size := range sizes {
		if n, e := l.Append(bodyOf(i, size)); n != i+1 || e != api.OK {
			t.Fatal(n, e)
		}
		if n, e := l.Append(make([]byte, api.MaxFrame+1)); n != 0 || e != api.ErrLong || l.Broken() {
			t.Fatal(n, e)
		}
	}
	want := state{1, 9, 0, []int{1, 3, 6}, bodies(sizes...), false}
	has(t, "appended", l, want)
	m, e := Open(d, "log", 1000, 1)
	if e != api.OK {
		t.Fatal(e)
	}
	want.synced = 9
	has(t, "opened", m, want)
}

// P10.2: a segment ends when its size is most or more; a most of any number.
func TestMost(t *testing.T) {
	for most := 1; most < 140; most++ {
		for _, sizes := range [][]int{{0, 0, 0, 0, 0, 0}, {56, 0, 0, 60, 1, 0, 7}, {130, 130, 1, 1}, {1, 200, 3, 90, 6, 6, 6}} {
			d, l := filled(t, most, 5, sizes...)
			var heads []int
			size := most
			for i, n := range sizes {
				if size >= most {
					heads = append(heads, 5+i)
					size = 0
				}
				size += 4 + n
			}
			want := state{5, 4 + len(sizes), 4, heads, bodies(sizes...), false}
			has(t, fmt.Sprint(most, sizes), l, want)
			m, e := Open(d, "log", most, 1)
			if e != api.OK {
				t.Fatal(e)
			}
			want.synced = want.last
			has(t, fmt.Sprint(most, sizes, " opened"), m, want)
		}
	}
	// Opened with another most: what there is stays as it is.
	d, _ := five(t)
	l, _ := Open(d, "log", 1, 1)
	l.Append(nil)
	if got := l.Segments(); !slices.Equal(got, []int{1, 3, 5, 6}) {
		t.Error(got)
	}
	l, _ = Open(d, "log", 1000, 1)
	l.Append(nil)
	if got := l.Segments(); !slices.Equal(got, []int{1, 3, 5, 6}) || l.Last() != 7 {
		t.Error(got, l.Last())
	}
}

// A segment that is full, of a log that asks for more: the segment's error breaks the log, though not the segment.
func TestSegmentFull(t *testing.T) {
	d, l := filled(t, 1<<30, 1, 65536, 65536, 65536)
	want := state{1, 3, 3, []int{1}, bodies(65536, 65536, 65536), false}
	l.Sync()
	was := view(d)
	if n, e := l.Append(make([]byte, 65537)); n != 0 || e != api.ErrLong {
		t.Error(n, e)
	}
	has(t, "three", l, want)
	if n, e := l.Append(make([]byte, 57329)); n != 0 || e != api.ErrFull {
		t.Error(n, e)
	}
	want.broken = true
	has(t, "full", l, want)
	isBroken(t, "full", l)
	if view(d) != was {
		t.Error("what was refused did something")
	}
	// With a most of just that many bytes a new one begins.
	_, l = filled(t, 253952, 1, 65536, 65536, 65536, 57328, 1)
	if got := l.Segments(); !slices.Equal(got, []int{1, 5}) {
		t.Error(got)
	}
}

// A disk without room for another file: its error breaks the log; the segment ahead was synced.
func TestDiskFull(t *testing.T) {
	d, l := filled(t, 100, 1, 96)
	for i := range api.MaxFiles - 1 {
		d.Put(strconv.Itoa(i), 0, make([]byte, 64))
	}
	if n, e := l.Append(nil); n != 0 || e != api.ErrFull {
		t.Error(n, e)
	}
	has(t, "full", l, state{1, 1, 0, []int{1}, bodies(96), true})
	d.Crash(nil)
	l, e := Open(d, "log", 100, 1)
	if e != api.OK {
		t.Fatal(e)
	}
	has(t, "behind a crash", l, state{1, 1, 1, []int{1}, bodies(96), false})
}

// P10.3: every from and most, of logs of one segment, of several, and of none.
func TestRead(t *testing.T) {
	for _, c := range []struct {
		most, first int
		sizes       []int
	}{
		{100, 1, nil}, {100, 7, nil}, {1000, 1, []int{5}}, {1000, 3, []int{0, 1, 2}}, {1, 1, []int{4, 0, 6, 7}},
		{100, 1, []int{60, 61, 62, 63, 64}}, {100, 1 << 40, []int{60, 61, 62, 63, 64, 1, 96, 3}},
	} {
		d, l := filled(t, c.most, c.first, c.sizes...)
		all := bodies(c.sizes...)
		last := c.first + len(all) - 1
		again, e := Open(d, "log", c.most, c.first)
		if e != api.OK {
			t.Fatal(e)
		}
		for _, log := range []*Log{l, again} {
			froms := []int{math.MinInt, math.MinInt + 1, -1, 0, math.MaxInt - 1, math.MaxInt}
			for from := c.first - 3; from <= last+4; from++ {
				froms = append(froms, from)
			}
			for _, from := range froms {
				mosts := []int{math.MinInt, -2, -1, math.MaxInt - 1, math.MaxInt, 1 << 40}
				for most := range len(all) + 3 {
					mosts = append(mosts, most)
				}
				for _, most := range mosts {
					var want [][]byte
					e := api.OK
					switch {
					case most < 0:
						e = api.ErrArg
					case from < c.first || from > last+1:
						e = api.ErrGone
					default:
						want = all[from-c.first:]
						want = want[:min(most, len(want))]
					}
					if got, ge := log.Read(from, most); ge != e || !sameBodies(got, want) || e != api.OK && got != nil {
						t.Fatalf("%v: Read(%d, %d) = %s, %d, want %d", c, from, most, unlike(got, want), ge, e)
					}
				}
			}
		}
		// Without power, and of a broken one, too.
		unplug(d)
		l.Append(nil)
		if got, e := l.Read(c.first, len(all)); e != api.OK || !sameBodies(got, all) || !l.Broken() {
			t.Errorf("%v: without power: %d, %v", c, e, l.Broken())
		}
	}
}

// Many segments: each index is found, from each on.
func TestManySegments(t *testing.T) {
	s := begun(t, 64)
	for i := range 400 {
		if e := s.append(t, []int{0, 10, 40, 70, 5}[i%5]); e != api.OK {
			t.Fatal(i, e)
		}
	}
	if n := len(s.log.Segments()); n < 150 || n > 250 {
		t.Fatal(n)
	}
	for from := 1; from <= 401; from++ {
		for _, most := range []int{1, 2, 3, 7, 400} {
			want := s.mod.bodies[from-1:]
			want = want[:min(most, len(want))]
			if got, e := s.log.Read(from, most); e != api.OK || !sameBodies(got, want) {
				t.Fatalf("Read(%d, %d) = %s, %d", from, most, unlike(got, want), e)
			}
		}
	}
	for _, line := range []string{"drop 100", "truncate 333", "open", "append 5", "drop 301", "truncate 300", "append 5", "restart 4", "append 1"} {
		if e := s.run(t, line); e != api.OK {
			t.Fatal(line, e)
		}
	}
}

// What Synced tells, call by call.
func TestSynced(t *testing.T) {
	for _, c := range []struct {
		lines string
		call  string
		e     api.Errno
		want  int
	}{
		{"", "sync", api.OK, 0},
		{"append 60; append 60", "sync", api.OK, 2},
		{"append 60; append 60", "append 60", api.OK, 0},
		{"append 60; sync; append 60", "append 60", api.OK, 1},
		{"append 60; append 60; append 60", "sync", api.OK, 3},
		{"append 60; append 60; append 60", "open", api.OK, 3},
		{"append 60; append 60; append 60", "truncate 3", api.OK, 0},
		{"append 60; append 60; append 60", "truncate 1", api.OK, 0},
		{"append 60; append 60; append 60; sync", "truncate 3", api.OK, 3},
		{"append 60; append 60; append 60; sync", "truncate 2", api.OK, 2},
		{"append 60; append 60; append 60; sync", "truncate 1", api.OK, 1},
		{"append 60; append 60; append 60; sync", "truncate 0", api.OK, 0},
		{"append 60; append 60; append 60; sync", "truncate -1", api.ErrGone, 3},
		{"append 60; append 60; append 60; sync", "truncate 4", api.ErrGone, 3},
		{"append 60; sync; append 60; append 60", "truncate 2", api.OK, 1},
		{"append 60; append 60; sync; append 60", "truncate 1", api.OK, 1},
		{"append 60; sync; truncate 0; append 1", "append 1", api.OK, 0},
		{"append 60; append 60; append 60", "drop 1", api.OK, 0},
		{"append 60; append 60; append 60", "drop 0", api.OK, 0},
		{"append 60; append 60; append 60", "drop 2", api.OK, 0},
		{"append 60; append 60; append 60", "drop 3", api.OK, 3},
		{"append 60; append 60; append 60", "drop 4", api.OK, 3},
		{"append 60; append 60; append 60", "drop 5", api.ErrGone, 0},
		{"append 60; append 60", "drop 3", api.OK, 0},
		{"append 60; sync; append 60; append 60; append 60; append 60", "drop 4", api.OK, 5},
		{"append 60; sync; append 60; append 60; append 60; append 60", "drop 6", api.OK, 5},
		{"append 60; sync", "restart 1", api.OK, 0},
		{"append 60; sync", "restart 9", api.OK, 8},
		{"append 60; sync", "restart 1099511627776", api.OK, 1<<40 - 1},
		{"append 60; sync", "restart 1099511627777", api.ErrArg, 1},
		{"append 60; sync", "restart 0", api.ErrArg, 1},
		{"restart 9; append 1; append 1", "sync", api.OK, 10},
		{"restart 9", "sync", api.OK, 8},
	} {
		s := script(t, 100, c.lines)
		if e := s.run(t, c.call); e != c.e || s.log.Synced() != c.want {
			t.Errorf("%s; %s: %d, Synced %d, want %d, %d", c.lines, c.call, e, s.log.Synced(), c.e, c.want)
		}
	}
}

// P10.4: every index, of logs of many shapes, and what is appended behind.
func TestEveryIndex(t *testing.T) {
	for _, ahead := range []string{
		"", "append 5", "append 60; append 60", "append 60; append 60; append 60", "append 96; append 96; append 96; append 1; append 1",
		"append 60; append 61; append 62; append 63; append 64; sync", "append 60; append 61; append 62; append 63; append 64; drop 3",
		"restart 20; append 60; append 61; append 62; append 63; append 64", "append 60; append 60; append 7; crash 1; open", "append 7; crash 1; open",
		"append 60; append 60; append 7; sync; drop 3; truncate 2", "restart 1099511627776; append 96; append 96; append 96",
	} {
		probe := script(t, 100, ahead)
		first, last := probe.log.First(), probe.log.Last()
		for index := first - 3; index <= last+3; index++ {
			for _, word := range []string{"truncate", "drop"} {
				s := script(t, 100, ahead)
				want := api.OK
				if index > last+1 || word == "truncate" && (index < first-1 || index > last) {
					want = api.ErrGone
				}
				if e := s.run(t, fmt.Sprint(word, " ", index)); e != want {
					t.Fatalf("%s; %s %d: %d, want %d", ahead, word, index, e, want)
				}
				if want == api.OK && word == "truncate" && s.log.Last() != index {
					t.Fatalf("%s; %s %d: Last %d", ahead, word, index, s.log.Last())
				}
				next := s.log.Last() + 1
				sameDisk(t, ahead, s.disk, s.ref)
				for _, line := range []string{"append 30", "append 70", "append 0", "sync", "crash 0", "open", "append 3"} {
					if e := s.run(t, line); e != api.OK {
						t.Fatal(line, e)
					}
				}
				if s.log.Last() != next+3 {
					t.Fatalf("%s; %s %d: Last %d, want %d", ahead, word, index, s.log.Last(), next+3)
				}
			}
		}
		for _, index := range []int{math.MinInt, math.MinInt + 1, -1 << 62, math.MaxInt - 1, math.MaxInt} {
			s := script(t, 100, ahead)
			s.run(t, fmt.Sprint("truncate ", index))
			s.run(t, fmt.Sprint("drop ", index))
		}
		for _, start := range []int{math.MinInt, -1, 0, 1, 2, first, last, last + 1, 1<<40 - 1, 1 << 40, 1<<40 + 1, math.MaxInt} {
			s := script(t, 100, ahead)
			want := api.OK
			if start < 1 || start > 1<<40 {
				want = api.ErrArg
			}
			if e := s.run(t, fmt.Sprint("restart ", start)); e != want {
				t.Fatalf("%s; restart %d: %d, want %d", ahead, start, e, want)
			}
			next := s.log.Last() + 1
			if want == api.OK && (next != start || s.log.First() != start || len(s.log.Segments()) != 0) {
				t.Fatalf("%s; restart %d: First %d, Last %d", ahead, start, s.log.First(), s.log.Last())
			}
			for _, line := range []string{"append 96", "append 1", "sync", "crash 0", "open"} {
				if e := s.run(t, line); e != api.OK {
					t.Fatal(line, e)
				}
			}
			if s.log.Last() != next+1 {
				t.Fatalf("%s; restart %d: Last %d behind two", ahead, start, s.log.Last())
			}
		}
	}
}

// A file without frames that a crash left is the log's: it is gone on with, and taken away by what begins ahead of it.
func TestFileWithoutFrames(t *testing.T) {
	lines := "append 60; append 60; append 60; crash 1; open"
	s := script(t, 100, lines)
	has(t, lines, s.log, state{1, 2, 2, []int{1, 3}, bodies(60, 60), false})
	if e := s.run(t, "append 5"); e != api.OK || s.log.Last() != 3 || !slices.Equal(s.log.Segments(), []int{1, 3}) {
		t.Error(e, s.log.Last(), s.log.Segments())
	}
	s = script(t, 100, lines+"; truncate 2")
	has(t, "truncated", s.log, state{1, 2, 2, []int{1}, bodies(60, 60), false})
	s = script(t, 100, lines+"; drop 3")
	has(t, "dropped", s.log, state{3, 2, 2, []int{3}, nil, false})
	if got := s.disk.Names(); !slices.Equal(got, []string{"log-3"}) {
		t.Error(got)
	}
	s.run(t, "truncate 2")
	has(t, "nothing left", s.log, state{3, 2, 2, nil, nil, false})
	s.run(t, "append 1")
	has(t, "one more", s.log, state{3, 3, 2, []int{3}, [][]byte{bodyOf(3, 1)}, false})
}

// A file that somebody took away: the disk's answer is the log's, and breaks it.
func TestFileTakenAway(t *testing.T) {
	for call, want := range map[string]api.Errno{"truncate 4": api.ErrFile, "truncate 5": api.OK, "drop 5": api.OK, "drop 2": api.OK, "restart 1": api.ErrFile, "sync": api.OK, "append 1": api.ErrArg} {
		d, l := five(t)
		d.Remove("log-5")
		if _, e := does(l, call); e != want || l.Broken() != (want != api.OK) {
			t.Errorf("%s: %d, %v", call, e, l.Broken())
		}
	}
	d, l := five(t)
	d.Remove("log-1")
	if e := l.DropBefore(6); e != api.ErrFile {
		t.Error(e)
	}
	has(t, "first one gone", l, state{1, 5, 5, []int{1, 3, 5}, fiveBodies, true})
}

// A file of somebody else's at the place of a new segment is the segment that begins there, with its frames: where the body lies is what is told.
func TestFileInTheWay(t *testing.T) {
	d, l := filled(t, 100, 1, 96)
	l.Sync()
	lay(t, d, "log-2", 3, 4)
	if n, e := l.Append([]byte("x")); n != 4 || e != api.OK {
		t.Error(n, e)
	}
	if got, e := l.Read(4, 1); e != api.OK || !sameBodies(got, [][]byte{[]byte("x")}) || l.Last() != 4 {
		t.Error(got, e, l.Last())
	}
	d, l = filled(t, 100, 1, 96)
	l.Sync()
	lay(t, d, "log-2", 3, 4)
	soil(t, d, "log-2")
	d.Fail(1, api.ErrIO)
	if n, e := l.Append([]byte("x")); n != 0 || e != api.ErrIO {
		t.Error(n, e)
	}
	has(t, "in the way", l, state{1, 1, 1, []int{1}, bodies(96), true})
}

// R3: what is handed in is neither changed nor kept.
func TestHandedIn(t *testing.T) {
	d := file.New()
	l, _ := Open(d, "log", 100, 1)
	var want [][]byte
	for i, size := range []int{0, 3, 70, 54, 1, 300} {
		spare := bodyOf(i, size+100)
		was := bytes.Clone(spare)
		body := spare[:size]
		want = append(want, bytes.Clone(body))
		if _, e := l.Append(body); e != api.OK {
			t.Fatal(e)
		}
		if !bytes.Equal(spare, was) {
			t.Errorf("%d bytes: changed", size)
		}
		for j := range spare {
			spare[j] = 0xEE
		}
		if got, _ := l.Read(1, 99); !sameBodies(got, want) {
			t.Errorf("%d bytes: kept", size)
		}
	}
	m, e := Open(d, "log", 100, 1)
	if e != api.OK {
		t.Fatal(e)
	}
	if got, _ := m.Read(1, 99); !sameBodies(got, want) {
		t.Error("the disk's are changed")
	}
}

// R3: what is handed out is new, its spare room too.
func TestHandedOut(t *testing.T) {
	d, l := five(t)
	want := state{1, 5, 0, []int{1, 3, 5}, fiveBodies, false}
	var answers [][][]byte
	var heads [][]int
	for range 2 {
		for from := 1; from <= 6; from++ {
			got, _ := l.Read(from, 9)
			answers = append(answers, got)
		}
		heads = append(heads, l.Segments())
	}
	for i, answer := range answers {
		for k, body := range answer {
			for j := range body[:cap(body)] {
				body[:cap(body)][j] = 0xEE
			}
			for n, other := range answer[k+1:] {
				if !bytes.Equal(other, fiveBodies[i%6+k+1+n]) {
					t.Errorf("bodies %d and %d of answer %d share memory", k, k+1+n, i)
				}
			}
		}
		for k := range answer[:cap(answer)] {
			answer[:cap(answer)][k] = []byte("wrong")
		}
		for k, other := range answers[i+1:] {
			if !sameBodies(other, fiveBodies[(i+1+k)%6:]) {
				t.Errorf("answers %d and %d share memory", i, i+1+k)
			}
		}
		has(t, "an answer is changed", l, want)
	}
	for i, list := range heads {
		for j := range list[:cap(list)] {
			list[:cap(list)][j] = 77
		}
		for _, other := range heads[i+1:] {
			if !slices.Equal(other, want.heads) {
				t.Error("Segments' answers share memory")
			}
		}
		has(t, "Segments' answer is changed", l, want)
	}
	// What is put from now on is what was appended.
	if e := l.TruncateAfter(3); e != api.OK {
		t.Error(e)
	}
	if m, e := Open(d, "log", 100, 1); e != api.OK {
		t.Error(e)
	} else if got, _ := m.Read(1, 9); !sameBodies(got, fiveBodies[:3]) {
		t.Error("the disk's are changed")
	}
}

// What was read stays, whatever is truncated, dropped and appended then.
func TestReadStays(t *testing.T) {
	_, l := five(t)
	got, _ := l.Read(1, 5)
	heads := l.Segments()
	l.TruncateAfter(3)
	l.Append(bodyOf(50, 60))
	l.DropBefore(3)
	l.Append(bodyOf(51, 60))
	l.Restart(1)
	l.Append(bodyOf(52, 60))
	if !sameBodies(got, fiveBodies) || !slices.Equal(heads, []int{1, 3, 5}) {
		t.Error(heads)
	}
}

// R5.
func TestNoLog(t *testing.T) {
	d, l := five(t)
	moved := *l
	was := view(d)
	for i, none := range []*Log{nil, new(Log), {}, &moved, {broken: true, first: 3, synced: 4}} {
		for range 2 {
			for _, size := range []int{0, 1, api.MaxFrame + 1} {
				if n, e := none.Append(make([]byte, size)); n != 0 || e != api.ErrNil {
					t.Error(i, n, e)
				}
			}
			if e := none.Sync(); e != api.ErrNil {
				t.Error(i, e)
			}
			for _, n := range []int{math.MinInt, -1, 0, 1, 3, 9, 1 << 41} {
				if got, e := none.Read(n, 1); got != nil || e != api.ErrNil {
					t.Error(i, got, e)
				}
				if got, e := none.Read(1, n); got != nil || e != api.ErrNil {
					t.Error(i, got, e)
				}
				if e := none.TruncateAfter(n); e != api.ErrNil {
					t.Error(i, e)
				}
				if e := none.DropBefore(n); e != api.ErrNil {
					t.Error(i, e)
				}
				if e := none.Restart(n); e != api.ErrNil {
					t.Error(i, e)
				}
			}
			if none.First() != 0 || none.Last() != 0 || none.Synced() != 0 || len(none.Segments()) != 0 || none.Broken() {
				t.Error(i, none.First(), none.Last(), none.Synced(), none.Segments(), none.Broken())
			}
		}
	}
	has(t, "the one that was copied", l, state{1, 5, 0, []int{1, 3, 5}, fiveBodies, false})
	if view(d) != was {
		t.Error("the disk has changed")
	}
}

// R4, R6: the same past tells the same, and none is as good as an empty body.
func TestSamePast(t *testing.T) {
	var views []string
	for _, none := range [][]byte{nil, {}, make([]byte, 0, 9)} {
		d := file.New()
		l, _ := Open(d, "log", 12, 1)
		for _, body := range [][]byte{none, []byte("a"), none, none, []byte("bc")} {
			l.Append(body)
		}
		l.Sync()
		l.Append(none)
		l.DropBefore(4)
		views = append(views, view(d)+fmt.Sprint(l.First(), l.Last(), l.Synced(), l.Segments()))
	}
	if views[0] != views[1] || views[0] != views[2] {
		t.Errorf("%q", views)
	}
}

// A log shares its disk: two disks are apart.
func TestTwoDisks(t *testing.T) {
	d, l := five(t)
	c := d.Copy()
	m, e := Open(c, "log", 100, 1)
	if e != api.OK {
		t.Fatal(e)
	}
	m.TruncateAfter(1)
	m.Append([]byte("x"))
	has(t, "the first", l, state{1, 5, 0, []int{1, 3, 5}, fiveBodies, false})
	has(t, "the second", m, state{1, 2, 1, []int{1}, [][]byte{fiveBodies[0], []byte("x")}, false})
	if len(d.Names()) != 3 || len(c.Names()) != 1 {
		t.Error(d.Names(), c.Names())
	}
}
