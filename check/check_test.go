package check

import (
	"bytes"
	"fmt"
	"slices"
	"strings"
	"testing"

	"conduit/api"
	"conduit/file"
)

func TestExamples(t *testing.T) {
	d := file.New()
	if e := Save(d, "c", []byte("a")); e != api.OK {
		t.Error(e)
	}
	one := append([]byte{5, 0, 0, 0, 0, 1, 'a'}, make([]byte, 57)...)
	if held, e := d.Read("c"); !bytes.Equal(held, one) || e != api.OK || len(d.Names()) != 1 || d.Pending() != 0 {
		t.Errorf("%x, %d, %q, %d", held, e, d.Names(), d.Pending())
	}
	if b, ok, e := Load(d, "c"); string(b) != "a" || !ok || e != api.OK {
		t.Error(b, ok, e)
	}
	if b, ok, e := Load(d, "x"); b != nil || ok || e != api.OK {
		t.Error(b, ok, e)
	}
	// Ahead of the last sync are a put, a sync and a rename.
	for _, keep := range [][]bool{nil, {true}} {
		c := d.Copy()
		c.Arm(3)
		if e := Save(c, "c", []byte("b")); e != api.ErrDown || c.Pending() != 1 {
			t.Error(e, c.Pending())
		}
		c.Crash(keep)
		want := "a"
		if keep != nil {
			want = "b"
		}
		if b, ok, e := Load(c, "c"); string(b) != want || !ok || e != api.OK {
			t.Error(keep, b, ok, e)
		}
	}
	d.Put("z", 0, make([]byte, 64))
	if b, ok, e := Load(d, "z"); b != nil || ok || e != api.ErrLog {
		t.Error(b, ok, e)
	}
}

// P11.1: how many bytes a name has; which ones they are does not matter.
func TestNames(t *testing.T) {
	names := map[string]api.Errno{"": api.ErrArg, "\x00": api.OK, "~": api.OK, "~~": api.OK, "a/b": api.OK, "\xff\xfe": api.OK, "ä": api.OK, "-": api.OK}
	for _, n := range []int{1, 2, 24, 62, 63} {
		names[strings.Repeat("n", n)] = api.OK
		names[strings.Repeat("~", n)] = api.OK
	}
	for _, n := range []int{64, 65, 1000, 1 << 20} {
		names[strings.Repeat("n", n)] = api.ErrArg
	}
	for name, want := range names {
		d := file.New()
		with(t, d, "other", cleanOf([]byte("o")))
		was := view(d)
		e := Save(d, name, []byte("a"))
		if e != want {
			t.Errorf("%d bytes, %.9q: %d", len(name), name, e)
		}
		if want != api.OK {
			if view(d) != was || load(t, "refused", d, name) != (told{}) {
				t.Errorf("%d bytes: the disk has changed", len(name))
			}
			continue
		}
		save(t, "again", d, name, []byte("b"))
		names := []string{"other", name}
		slices.Sort(names)
		if !slices.Equal(d.Names(), names) {
			t.Errorf("%d bytes: %q", len(name), d.Names())
		}
	}
}

// P11.1: how many bytes are saved; the file is that of one frame, and durable.
func TestBodies(t *testing.T) {
	var sizes []int
	for size := range 260 {
		sizes = append(sizes, size)
	}
	sizes = append(sizes, 4096, 60000, api.MaxFrame-2, api.MaxFrame-1, api.MaxFrame)
	d := file.New()
	for i, size := range sizes {
		for kind := range 4 {
			save(t, fmt.Sprint(size, " bytes"), d, "c", bodyOf(4*i+kind, size))
			if d.Pending() != 0 || len(d.Names()) != 1 {
				t.Fatal(size, d.Pending(), d.Names())
			}
		}
	}
	was := view(d)
	for _, size := range []int{api.MaxFrame + 1, api.MaxFrame + 2, 2 * api.MaxFrame, 1 << 20} {
		if e := Save(d, "c", make([]byte, size)); e != api.ErrLong || view(d) != was {
			t.Errorf("%d bytes: %d", size, e)
		}
		if e := Save(d, "new", make([]byte, size)); e != api.ErrLong || view(d) != was {
			t.Errorf("%d bytes: %d", size, e)
		}
	}
}

// noDisks are disks that neither New nor Copy answered.
func noDisks(t *testing.T) map[string]*file.Disk {
	d := file.New()
	with(t, d, "c", cleanOf([]byte("a")))
	moved := new(file.Disk)
	// go vet warns of a disk that is copied as a value, but that is the case here.
	copyInto(moved, d)
	return map[string]*file.Disk{"nil": nil, "new": new(file.Disk), "copied as a value": moved}
}

func copyInto[T any](to, from *T) {
	*to = *from
}

// The errors of Save, in their order; what is refused makes no operation, and changes nothing.
func TestSaveErrors(t *testing.T) {
	long := make([]byte, api.MaxFrame+1)
	names := []string{"c", "", "x", strings.Repeat("n", 63), strings.Repeat("n", 64)}
	for what, none := range noDisks(t) {
		for _, name := range names {
			for _, b := range [][]byte{nil, []byte("b"), long} {
				if e := Save(none, name, b); e != api.ErrNil {
					t.Errorf("%s, %d bytes of name, %d bytes: %d", what, len(name), len(b), e)
				}
			}
		}
	}
	for _, power := range []bool{true, false} {
		d := file.New()
		with(t, d, "c", cleanOf([]byte("a")))
		with(t, d, "c~", make([]byte, 128))
		for i := range api.MaxFiles - 2 {
			d.Put(fmt.Sprint(i), 0, make([]byte, 64))
		}
		d.Fail(0, api.ErrIO)
		if power {
			d.Arm(0)
		} else {
			unplug(d)
			d.Fail(0, api.ErrIO)
		}
		was := view(d)
		for _, c := range []struct {
			name string
			b    []byte
			want api.Errno
		}{
			{"", nil, api.ErrArg},
			{"", long, api.ErrArg},
			{strings.Repeat("n", 64), []byte("b"), api.ErrArg},
			{strings.Repeat("n", 64), long, api.ErrArg},
			{"c", long, api.ErrLong},
			{"new", long, api.ErrLong},
			{strings.Repeat("n", 63), long, api.ErrLong},
			// There is no room for a name, which the disk says ahead of its power.
			{"new", []byte("b"), api.ErrFull},
			{"c~", []byte("b"), api.ErrFull},
		} {
			if e := Save(d, c.name, c.b); e != c.want {
				t.Errorf("power %v, %d bytes of name, %d bytes: %d, want %d", power, len(c.name), len(c.b), e, c.want)
			}
			if view(d) != was {
				t.Errorf("power %v, %d bytes of name, %d bytes: the disk has changed", power, len(c.name), len(c.b))
			}
		}
		// The first operation is the one that finds the power gone.
		if e := Save(d, "c", []byte("b")); e != api.ErrDown {
			t.Error(power, e)
		}
		d.Crash(nil)
		if got := load(t, "behind", d, "c"); got != body([]byte("a")) {
			t.Error(power, got)
		}
	}
}

// beside is something old beside the file c; ops are what a Save of 70 bytes makes of it by then.
type beside struct {
	what string
	lay  func(t *testing.T, d *file.Disk)
	ops  string
}

func sector(first, second byte, data ...byte) []byte {
	return append(append([]byte{first, second}, data...), make([]byte, 62-len(data))...)
}

func besideCases() []beside {
	synced := func(held []byte) func(t *testing.T, d *file.Disk) {
		return func(t *testing.T, d *file.Disk) {
			t.Helper()
			with(t, d, "c~", held)
		}
	}
	short, long := bodyOf(0, 20), bodyOf(1, 300)
	full := cleanOf(bodyOf(2, 58))
	return []beside{
		{"nothing", func(t *testing.T, d *file.Disk) {}, "put 0, put 1, sync, rename, names"},
		{"no sectors", synced(nil), "put 0, put 1, sync, rename, names"},
		{"one frame", synced(cleanOf(short)), "cut 0, sync, put 0, put 1, sync, rename, names"},
		{"one frame without a body", synced(cleanOf(nil)), "cut 0, sync, put 0, put 1, sync, rename, names"},
		{"a full sector", synced(full), "cut 0, sync, put 0, put 1, sync, rename, names"},
		{"two frames", synced(cleanOf(short, short)), "cut 0, sync, put 0, put 1, sync, rename, names"},
		{"a longer body", synced(cleanOf(long)), "cut 0, sync, put 0, put 1, sync, rename, names"},
		{"many frames", synced(cleanOf(long, short, nil, long)), "cut 0, sync, put 0, put 1, sync, rename, names"},
		{"noughts", synced(make([]byte, 64)), "cut 0, sync, put 0, put 1, sync, rename, names"},
		{"sectors that are no frames", synced(bytes.Repeat([]byte{0xFF}, 192)), "cut 0, sync, put 0, put 1, sync, rename, names"},
		{"a length above the limit", synced(sector(8, 0, 0, 1, 0, 1, 1, 2, 3, 4)), "cut 0, sync, put 0, put 1, sync, rename, names"},
		{"a frame cut short", synced(cleanOf(long)[:128]), "cut 0, sync, put 0, put 1, sync, rename, names"},
		{"a frame, and noughts", synced(append(cleanOf(short), make([]byte, 64)...)), "mend 0, cut 1, sync, cut 0, sync, put 0, put 1, sync, rename, names"},
		{"a frame, and one cut short", synced(cleanOf(short, long)[:128]), "mend 0, cut 1, sync, cut 0, sync, put 0, put 1, sync, rename, names"},
		{"a full sector, and noughts", synced(append(slices.Clone(full), make([]byte, 64)...)), "cut 1, sync, cut 0, sync, put 0, put 1, sync, rename, names"},
		{"a second byte", synced(sector(5, 1, 0, 0, 0, 1, 'x')), "mend 0, cut 1, sync, cut 0, sync, put 0, put 1, sync, rename, names"},
		{"bytes behind what is filled", synced(sector(5, 0, 0, 0, 0, 1, 'x', 'y')), "mend 0, cut 1, sync, cut 0, sync, put 0, put 1, sync, rename, names"},
		{"one frame, unsynced", func(t *testing.T, d *file.Disk) {
			d.Put("c~", 0, cleanOf(short))
		}, "cut 0, sync, put 0, put 1, sync, rename, names"},
		{"noughts, unsynced", func(t *testing.T, d *file.Disk) {
			d.Put("c~", 0, make([]byte, 64))
		}, "cut 0, sync, put 0, put 1, sync, rename, names"},
		{"a cut, unsynced", func(t *testing.T, d *file.Disk) {
			with(t, d, "c~", cleanOf(long))
			d.Cut("c~", 0)
		}, "put 0, put 1, sync, rename, names"},
		{"no sectors, the making unsynced", func(t *testing.T, d *file.Disk) {
			lay(t, d, "c~", nil)
		}, "put 0, put 1, sync, rename, names"},
		{"a longer one, unsynced", func(t *testing.T, d *file.Disk) {
			with(t, d, "c~", cleanOf(short))
			lay(t, d, "c~", cleanOf(bodyOf(3, 130)))
		}, "cut 0, sync, put 0, put 1, sync, rename, names"},
		{"taken away, unsynced", func(t *testing.T, d *file.Disk) {
			with(t, d, "c~", cleanOf(short))
			d.Remove("c~")
		}, "put 0, put 1, sync, rename, names"},
		{"taken away and made anew, unsynced", func(t *testing.T, d *file.Disk) {
			with(t, d, "c~", cleanOf(short))
			d.Remove("c~")
			d.Put("c~", 0, cleanOf(bodyOf(5, 20)))
		}, "cut 0, sync, put 0, put 1, sync, rename, names"},
		{"another's name changed, unsynced", func(t *testing.T, d *file.Disk) {
			with(t, d, "q", cleanOf(short))
			d.Rename("q", "c~")
		}, "cut 0, sync, put 0, put 1, sync, rename, names"},
		{"its name changed, unsynced", func(t *testing.T, d *file.Disk) {
			with(t, d, "c~", cleanOf(short))
			d.Rename("c~", "q")
		}, "put 0, put 1, sync, rename, names"},
	}
}

// olds are files c ahead of a Save, and what Load tells of them.
func olds() map[string]told {
	return map[string]told{
		"":                              {},
		string(cleanOf([]byte("old"))):  body([]byte("old")),
		string(cleanOf(bodyOf(6, 200))): body(bodyOf(6, 200)),
		string(make([]byte, 64)):        {e: api.ErrLog},
		string(cleanOf([]byte("old"), []byte("old too"))): {e: api.ErrLog},
	}
}

// P11.1, P11.3: a Save that is stopped at each of its operations, by the disk or for want of power; what is there by then is what the operations ahead did, one by one.
func TestOperations(t *testing.T) {
	t.Parallel()
	next := bodyOf(8, 70)
	for _, c := range besideCases() {
		for old, was := range olds() {
			build := func() *file.Disk {
				d := file.New()
				if old != "" {
					with(t, d, "c", []byte(old))
				}
				c.lay(t, d)
				return d
			}
			ops := opsOf(c.ops)
			for n := range len(ops) + 1 {
				for _, stop := range []api.Errno{api.ErrDown, api.ErrIO, api.ErrFull} {
					what := fmt.Sprintf("%s beside %.9q, %d operations, %d", c.what, old, n, stop)
					d, ref := build(), build()
					held, _ := ref.Read("c~")
					arm(d, n, stop)
					arm(ref, n, stop)
					e := Save(d, "c", next)
					if want := doAll(ref, "c", cleanOf(bodiesOf(held)...), cleanOf(next), ops); e != want || (e == api.OK) != (n == len(ops)) {
						t.Fatalf("%s: %d, want %d", what, e, want)
					}
					sameDisk(t, what, d, ref)
					stoppedAt(t, what, d, n-len(ops), stop, was, next)
				}
			}
		}
	}
}

// arm has an operation fail, or the power gone at it.
func arm(d *file.Disk, ops int, e api.Errno) {
	if e == api.ErrDown {
		d.Arm(ops)
	} else {
		d.Fail(ops, e)
	}
}

// stoppedAt says what Load tells of a Save of next that was stopped when so many operations (below 0) lacked, and behind crashes; and that a Save goes well then.
func stoppedAt(t *testing.T, what string, d *file.Disk, lacking int, stop api.Errno, old told, next []byte) {
	t.Helper()
	want := old
	if lacking >= -1 {
		want = body(next)
	}
	power := stop != api.ErrDown || lacking == 0
	if !power && want != (told{}) {
		want = told{e: api.ErrDown}
	}
	if got := load(t, what, d, "c"); got != want {
		t.Fatalf("%s: %s, want %s", what, got, want)
	}
	for _, keep := range keepings(d.Pending()) {
		c := d.Copy()
		c.Crash(keep)
		// Ahead of the last sync are the renaming, and that by which the file had got the name beside, if it was not made so.
		want := old
		if lacking == 0 || lacking == -1 && !slices.Contains(keep, false) {
			want = body(next)
		}
		if got := load(t, what, c, "c"); got != want {
			t.Fatalf("%s, crash %v: %s, want %s", what, keep, got, want)
		}
		save(t, what+", behind a crash", c, "c", []byte("third"))
	}
	if power {
		c := d.Copy()
		// What was armed and is not spent is put off.
		arm(c, 1<<20, stop)
		save(t, what+", again", c, "c", []byte("third"))
	}
}

// The operation behind the last one of a Save finds what is armed still there.
func TestNoMoreOperations(t *testing.T) {
	for _, c := range besideCases() {
		d := file.New()
		c.lay(t, d)
		arm(d, len(opsOf(c.ops)), api.ErrIO)
		if e := Save(d, "c", bodyOf(8, 70)); e != api.OK {
			t.Errorf("%s: %d", c.what, e)
		}
		if e := d.SyncNames(); e != api.ErrIO {
			t.Errorf("%s: fewer operations than asked", c.what)
		}
	}
}

// A Save whose file has as many sectors as one can: each of them may be the last one that is put.
func TestLongestStopped(t *testing.T) {
	b := bodyOf(0, api.MaxFrame)
	sectors := (api.MaxFrame + 4 + 61) / 62
	d := file.New()
	save(t, "old", d, "c", []byte("old"))
	for _, n := range []int{0, 1, 500, sectors - 1, sectors, sectors + 1, sectors + 2, sectors + 3} {
		for _, stop := range []api.Errno{api.ErrDown, api.ErrIO} {
			what := fmt.Sprint(n, " operations, ", stop)
			c, ref := d.Copy(), d.Copy()
			arm(c, n, stop)
			arm(ref, n, stop)
			if got, want := Save(c, "c", b), modelSave(ref, "c", b); got != want || (got == api.OK) != (n == sectors+3) {
				t.Fatalf("%s: %d, want %d", what, got, want)
			}
			sameDisk(t, what, c, ref)
			c.Crash(slices.Repeat([]bool{true}, c.Pending()))
			want := body([]byte("old"))
			if n >= sectors+2 {
				want = body(b)
			}
			if got := load(t, what, c, "c"); got != want {
				t.Errorf("%s: %s", what, got)
			}
		}
	}
}

// P11.2: what a file is, and what Load tells of it.
func TestLoad(t *testing.T) {
	a, long := []byte("a"), bodyOf(1, 200)
	full := bodyOf(0, 58)
	none := told{e: api.ErrLog}
	for _, c := range []struct {
		what string
		held []byte
		want told
	}{
		{"no sectors", nil, none},
		{"noughts", make([]byte, 64), none},
		{"many noughts", make([]byte, 640), none},
		{"as many noughts as can be", make([]byte, 64*api.MaxSectors), none},
		{"one frame", cleanOf(a), body(a)},
		{"one without a body", cleanOf(nil), body(nil)},
		{"one that fills a sector", cleanOf(full), body(full)},
		{"one in many sectors", cleanOf(long), body(long)},
		{"the longest one", cleanOf(bodyOf(2, api.MaxFrame)), body(bodyOf(2, api.MaxFrame))},
		{"two frames", cleanOf(a, a), none},
		{"two without bodies", cleanOf(nil, nil), none},
		{"one of many sectors, and one", cleanOf(long, a), none},
		{"one that fills a sector, and one without a body", cleanOf(full, nil), none},
		{"many frames", cleanOf(a, a, long, a, nil, full), none},
		{"the longest one, twice", cleanOf(bodyOf(2, api.MaxFrame), bodyOf(0, api.MaxFrame)), none},
		{"as many sectors as can be", cleanOf(slices.Repeat([][]byte{full}, api.MaxSectors)...), none},
		{"one frame, and as many noughts as can be", slices.Concat(cleanOf(a), make([]byte, 64*(api.MaxSectors-1))), body(a)},
		{"one frame, cut short", cleanOf(long)[:192], none},
		{"a length, cut short", sector(3, 0, 0, 0, 0), none},
		{"a length without its body", sector(4, 0, 0, 0, 0, 1), none},
		{"one frame, and one cut short", cleanOf(a, long)[:128], body(a)},
		{"one frame, and a length cut short", sector(8, 0, 0, 0, 0, 1, 'a', 0, 0, 0), body(a)},
		{"one that fills a sector, and one cut short", cleanOf(full, long)[:192], body(full)},
		{"two frames, and one cut short", cleanOf(a, a, long)[:128], none},
		{"one frame, and a length above the limit", sector(9, 0, 0, 0, 0, 1, 'a', 0, 1, 0, 1), body(a)},
		{"a length above the limit, and a frame", sector(9, 0, 0, 1, 0, 1, 0, 0, 0, 1, 'a'), none},
		{"one frame, and noughts behind what is filled", slices.Concat(cleanOf(a), make([]byte, 64)), body(a)},
		{"one frame, and a sector behind one that is not full", slices.Concat(cleanOf(a), cleanOf(a)), body(a)},
		{"a full sector's frame, and a sector filled to more than it can be", slices.Concat(cleanOf(full), bytes.Repeat([]byte{63}, 64)), body(full)},
		{"a full sector's frame, and noughts", slices.Concat(cleanOf(full), make([]byte, 64)), body(full)},
		{"a sector filled to more than it can be", bytes.Repeat([]byte{63}, 64), none},
		{"filled to 255", bytes.Repeat([]byte{255}, 64), none},
		{"a second byte that is no nought", sector(5, 7, 0, 0, 0, 1, 'a'), body(a)},
		{"bytes behind what is filled", sector(5, 0, 0, 0, 0, 1, 'a', 'b', 0, 0, 0, 0), body(a)},
		{"a frame's bytes that are not filled", sector(0, 0, 0, 0, 0, 1, 'a'), none},
	} {
		for _, name := range []string{"c", "c~", strings.Repeat("n", 64)} {
			if len(c.held) == 64*api.MaxSectors && name != "c" {
				continue
			}
			d := file.New()
			with(t, d, name, c.held)
			sees(t, c.what, d, name, c.want)
			// Likewise of a file that is not synced.
			d = file.New()
			lay(t, d, name, c.held)
			sees(t, c.what+", unsynced", d, name, c.want)
		}
	}
}

// sees says what Load tells, and that it changes nothing on the disk and makes no operation; without power it is that.
func sees(t *testing.T, what string, d *file.Disk, name string, want told) {
	t.Helper()
	c := d.Copy()
	c.Arm(1)
	c.Fail(0, api.ErrFull)
	for range 2 {
		if got := load(t, what, c, name); got != want {
			t.Errorf("%s: %s, want %s", what, got, want)
		}
	}
	if first, second := c.SyncNames(), c.SyncNames(); first != api.ErrFull || second != api.ErrDown {
		t.Errorf("%s: Load has made operations: %d, %d", what, first, second)
	}
	if got := load(t, what+", down", c, name); got != (told{e: api.ErrDown}) {
		t.Errorf("%s, down: %s", what, got)
	}
	if got := load(t, what+", not there", c, "x"); got != (told{}) {
		t.Errorf("%s, down, not there: %s", what, got)
	}
	sameDisk(t, what, c, unplugged(d))
}

// unplugged is a copy of a disk, without power.
func unplugged(d *file.Disk) *file.Disk {
	c := d.Copy()
	unplug(c)
	return c
}

// P11.2: names of which there is no file, and disks that are none.
func TestLoadNothing(t *testing.T) {
	names := []string{"", "x", "c~", "C", "cc", "\x00", strings.Repeat("n", 63), strings.Repeat("n", 64), strings.Repeat("n", 65), strings.Repeat("n", 1<<20)}
	for what, none := range noDisks(t) {
		for _, name := range append(names, "c") {
			if b, ok, e := Load(none, name); b != nil || ok || e != api.ErrNil {
				t.Errorf("%s, %d bytes: %x, %v, %d", what, len(name), b, ok, e)
			}
		}
	}
	d := file.New()
	for _, name := range append(names, "c") {
		if got := load(t, "a new disk", d, name); got != (told{}) {
			t.Errorf("%d bytes: %s", len(name), got)
		}
	}
	save(t, "", d, "c", []byte("a"))
	for _, power := range []bool{true, false} {
		if !power {
			unplug(d)
		}
		for _, name := range names {
			if got := load(t, "not there", d, name); got != (told{}) {
				t.Errorf("power %v, %d bytes: %s", power, len(name), got)
			}
		}
		want := body([]byte("a"))
		if !power {
			want = told{e: api.ErrDown}
		}
		if b, ok, e := Load(d, "c"); (told{string(b), ok, e}) != want || !power && b != nil {
			t.Errorf("power %v: %x, %v, %d", power, b, ok, e)
		}
	}
	// A file that was taken away, or has another name.
	d.Crash(nil)
	d.Rename("c", "k")
	if got := load(t, "renamed", d, "c"); got != (told{}) {
		t.Error(got)
	}
	if got := load(t, "renamed", d, "k"); got != body([]byte("a")) {
		t.Error(got)
	}
	d.Remove("k")
	if got := load(t, "removed", d, "k"); got != (told{}) {
		t.Error(got)
	}
}

// P11.1: a Save without power; whether it is gone is found out where a file is read, or put.
func TestSaveWithoutPower(t *testing.T) {
	for _, c := range besideCases() {
		d := file.New()
		save(t, c.what, d, "c", []byte("old"))
		c.lay(t, d)
		unplug(d)
		was := view(d)
		for _, size := range []int{0, 1, 70, api.MaxFrame} {
			if e := Save(d, "c", bodyOf(1, size)); e != api.ErrDown || view(d) != was {
				t.Errorf("%s: %d", c.what, e)
			}
			if e := Save(d, "new", bodyOf(1, size)); e != api.ErrDown || view(d) != was {
				t.Errorf("%s, another: %d", c.what, e)
			}
		}
		d.Crash(nil)
		save(t, c.what, d, "c", []byte("next"))
	}
}

// A disk with as many names as can be: what is beside needs one of its own.
func TestDiskFull(t *testing.T) {
	d := file.New()
	save(t, "", d, "c", []byte("old"))
	for i := range api.MaxFiles - 1 {
		with(t, d, fmt.Sprint(i), nil)
	}
	was := view(d)
	for _, name := range []string{"c", "0", "new"} {
		if e := Save(d, name, []byte("next")); e != api.ErrFull || view(d) != was {
			t.Errorf("%s: %d", name, e)
		}
	}
	if got := load(t, "full", d, "c"); got != body([]byte("old")) {
		t.Error(got)
	}
	d.Remove("9")
	save(t, "one less", d, "c", []byte("next"))
	save(t, "one less", d, "new", []byte("too"))
	if e := Save(d, "c", []byte("late")); e != api.ErrFull || len(d.Names()) != api.MaxFiles {
		t.Error(e, len(d.Names()))
	}
	// If something is beside already, no name is needed.
	d.Rename("8", "c~")
	save(t, "something beside", d, "c", []byte("late"))
}

// Saves of unlike names do not touch one another, whatever stops them, nor files that are no checkpoints.
func TestUnlikeNames(t *testing.T) {
	names := []string{"c", "d", "cc", "C", "c~~", "~", "c-", "\x00", strings.Repeat("n", 63), strings.Repeat("n", 62)}
	d := file.New()
	is := map[string]told{}
	for i, name := range names {
		save(t, "first", d, name, bodyOf(i, 10+20*i))
		is[name] = body(bodyOf(i, 10+20*i))
	}
	with(t, d, "log-1", cleanOf(nil, nil))
	with(t, d, "rest", make([]byte, 128))
	is["log-1"], is["rest"] = told{e: api.ErrLog}, told{e: api.ErrLog}
	others := func(what string, d *file.Disk, but string) {
		t.Helper()
		for name, want := range is {
			if name == but {
				continue
			}
			if got := load(t, what, d, name); got != want {
				t.Fatalf("%s: %q: %s, want %s", what, name, got, want)
			}
		}
	}
	for i, name := range names {
		for n := range 8 {
			what := fmt.Sprintf("%q, %d operations", name, n)
			c := d.Copy()
			c.Fail(n, api.ErrIO)
			e := Save(c, name, bodyOf(50+i, 130))
			if (e == api.OK) != (n >= 6) {
				t.Fatalf("%s: %d", what, e)
			}
			others(what, c, name)
			for _, keep := range keepings(c.Pending()) {
				k := c.Copy()
				k.Crash(keep)
				others(what+", crash", k, name)
			}
		}
		save(t, "again", d, name, bodyOf(90+i, 70))
		is[name] = body(bodyOf(90+i, 70))
		others("again", d, "")
	}
}

// A name that is another's with a ~ behind is what is beside that one.
func TestNameBeside(t *testing.T) {
	d := file.New()
	save(t, "", d, "c~", bodyOf(0, 200))
	if got := load(t, "", d, "c"); got != (told{}) {
		t.Error(got)
	}
	save(t, "", d, "c", []byte("a"))
	if got := load(t, "", d, "c~"); got != (told{}) {
		t.Error(got)
	}
	save(t, "", d, "c~", []byte("b"))
	if got := load(t, "", d, "c"); got != body([]byte("a")) {
		t.Error(got)
	}
}

// R3: what is handed in is neither changed nor kept, its spare room neither.
func TestHandedIn(t *testing.T) {
	d := file.New()
	for i, size := range []int{0, 1, 57, 58, 59, 200, api.MaxFrame} {
		for _, stop := range []int{1 << 20, 0, 1, 2, 3} {
			c := d.Copy()
			c.Arm(stop)
			spare := bodyOf(i, size+100)
			was := bytes.Clone(spare)
			e := Save(c, "c", spare[:size])
			if !bytes.Equal(spare, was) {
				t.Errorf("%d bytes: changed", size)
			}
			disk := view(c)
			for j := range spare {
				spare[j] = 0xEE
			}
			if view(c) != disk {
				t.Errorf("%d bytes: kept", size)
			}
			if e == api.OK && load(t, "", c, "c") != body(was[:size]) {
				t.Errorf("%d bytes: kept", size)
			}
			c.Crash(slices.Repeat([]bool{true}, c.Pending()))
			if got := load(t, "", c, "c"); got != (told{}) && got != body(was[:size]) {
				t.Errorf("%d bytes: %s", size, got)
			}
		}
	}
}

// R3: what is handed out is new, its spare room too.
func TestHandedOut(t *testing.T) {
	d := file.New()
	for i, size := range []int{0, 1, 58, 200, api.MaxFrame} {
		b := bodyOf(i, size)
		save(t, "", d, "c", b)
		was := view(d)
		var answers [][]byte
		for range 3 {
			got, _, _ := Load(d, "c")
			answers = append(answers, got)
		}
		for k, answer := range answers {
			all := answer[:cap(answer)]
			for j := range all {
				all[j] = 0xEE
			}
			for _, other := range answers[k+1:] {
				if !bytes.Equal(other, b) {
					t.Errorf("%d bytes: answers share memory", size)
				}
			}
			if view(d) != was || load(t, "", d, "c") != body(b) {
				t.Errorf("%d bytes: the disk has changed", size)
			}
		}
	}
}

// What was loaded stays, whatever is saved then.
func TestLoadedStays(t *testing.T) {
	d := file.New()
	b := bodyOf(1, 200)
	save(t, "", d, "c", b)
	got, _, _ := Load(d, "c")
	save(t, "", d, "c", bodyOf(4, 200))
	with(t, d, "c", make([]byte, 256))
	if !bytes.Equal(got, b) {
		t.Error("changed")
	}
}

// R4, R6: the same past tells the same, and none is as good as an empty list.
func TestSamePast(t *testing.T) {
	var views []string
	for _, none := range [][]byte{nil, {}, make([]byte, 0, 9)} {
		d := file.New()
		Save(d, "c", none)
		Save(d, "d", []byte("x"))
		d.Arm(2)
		Save(d, "d", none)
		views = append(views, view(d))
		d.Crash([]bool{true})
		if got := load(t, "", d, "c"); got != body(nil) {
			t.Error(got)
		}
		views[len(views)-1] += view(d)
	}
	if views[0] != views[1] || views[0] != views[2] {
		t.Errorf("%q", views)
	}
}

// Two disks are apart.
func TestTwoDisks(t *testing.T) {
	d := file.New()
	save(t, "", d, "c", []byte("a"))
	c := d.Copy()
	save(t, "", c, "c", []byte("b"))
	if got := load(t, "", d, "c"); got != body([]byte("a")) {
		t.Error(got)
	}
}
