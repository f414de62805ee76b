package segment

import (
	"bytes"
	"fmt"
	"math"
	"slices"
	"strconv"
	"strings"
	"testing"

	"conduit/api"
	"conduit/file"
)

// open opens the file s of a disk.
func open(t *testing.T, d *file.Disk) *Segment {
	t.Helper()
	s, e := Open(d, "s")
	if e != api.OK || s == nil {
		t.Fatalf("Open: %d", e)
	}
	return s
}

// with is a disk with a file s of these bytes, synced.
func with(t *testing.T, held []byte) *file.Disk {
	t.Helper()
	d := file.New()
	d.Put("s", 0, make([]byte, 64))
	d.Cut("s", 0)
	for at := 0; at*64 < len(held); at++ {
		if e := d.Put("s", at, held[at*64:at*64+64]); e != api.OK {
			t.Fatal(e)
		}
	}
	d.Sync("s")
	return d
}

// bodies are bodies of these sizes.
func bodies(sizes ...int) [][]byte {
	var list [][]byte
	for i, size := range sizes {
		list = append(list, bodyOf(i, size))
	}
	return list
}

// filled is a segment with these bodies, appended.
func filled(t *testing.T, list [][]byte) (*file.Disk, *Segment) {
	t.Helper()
	d := file.New()
	s := open(t, d)
	for i, body := range list {
		if place, e := s.Append(body); place != i || e != api.OK {
			t.Fatalf("Append %d: %d, %d", i, place, e)
		}
	}
	return d, s
}

// unplug takes a disk's power away.
func unplug(d *file.Disk) {
	d.Arm(0)
	d.SyncNames()
}

func TestExamples(t *testing.T) {
	d := file.New()
	s := open(t, d)
	if s.Count() != 0 || s.Size() != 0 || len(d.Names()) != 0 {
		t.Error(s.Count(), s.Size(), d.Names())
	}
	if n, e := s.Append([]byte("a")); n != 0 || e != api.OK {
		t.Error(n, e)
	}
	one := append([]byte{5, 0, 0, 0, 0, 1, 'a'}, make([]byte, 57)...)
	if got := bytesOn(t, d); !bytes.Equal(got, one) {
		t.Errorf("%x", got)
	}
	if e := s.Sync(); e != api.OK || d.Pending() != 0 {
		t.Error(e, d.Pending())
	}
	second := bytes.Repeat([]byte{'b'}, 60)
	if n, e := s.Append(second); n != 1 || e != api.OK || s.Size() != 69 || s.Count() != 2 {
		t.Error(n, e, s.Size(), s.Count())
	}
	two := slices.Concat([]byte{62, 0, 0, 0, 0, 1, 'a', 0, 0, 0, 60}, second[:53], []byte{7, 0}, second[:7], make([]byte, 55))
	if got := bytesOn(t, d); !bytes.Equal(got, two) {
		t.Errorf("%x", got)
	}
	for _, keep := range [][]bool{{false, true}, {true}, nil} {
		c := d.Copy()
		c.Crash(keep)
		has(t, "behind a crash", open(t, c), [][]byte{[]byte("a")})
		if got := bytesOn(t, c); !bytes.Equal(got, one) || c.Pending() != 0 {
			t.Errorf("%v: %x", keep, got)
		}
	}
	d.Crash([]bool{true, true})
	s = open(t, d)
	has(t, "all kept", s, [][]byte{[]byte("a"), second})
	if e := s.Truncate(0); e != api.OK || len(bytesOn(t, d)) != 0 || s.Count() != 0 || len(d.Names()) != 1 {
		t.Error(e, bytesOn(t, d), s.Count(), d.Names())
	}
	s.Append([]byte("c"))
	if e := s.Truncate(3); e != api.ErrArg {
		t.Error(e)
	}
	if b, e := s.Read(1); b != nil || e != api.ErrArg {
		t.Error(b, e)
	}
}

// P8.1: disks that are none, files that are not there, and a disk without power.
func TestOpenErrors(t *testing.T) {
	for _, d := range []*file.Disk{nil, new(file.Disk)} {
		for _, name := range []string{"s", "", strings.Repeat("n", 65)} {
			if s, e := Open(d, name); s != nil || e != api.ErrNil {
				t.Error(name, s, e)
			}
		}
	}
	d := with(t, cleanOf(bodies(1, 60)))
	for _, power := range []bool{true, false} {
		want := api.OK
		if !power {
			unplug(d)
			want = api.ErrDown
		}
		if s, e := Open(d, "s"); e != want || (s != nil) != power {
			t.Error(s, e)
		}
		// Whether a file is there is asked first: one that is not has no sectors, with or without power.
		for _, name := range []string{"x", "", strings.Repeat("n", 64), strings.Repeat("n", 65), "\x00", "S"} {
			s, e := Open(d, name)
			if e != api.OK || s.Count() != 0 || s.Size() != 0 || s.Broken() {
				t.Errorf("%q: %d", name, e)
			}
			if e := s.Sync(); e != api.OK || s.Broken() {
				t.Errorf("%q: Sync %d", name, e)
			}
			if e := s.Truncate(0); e != api.OK {
				t.Errorf("%q: Truncate %d", name, e)
			}
		}
		if got := d.Names(); len(got) != 1 || d.Pending() != 0 {
			t.Error(got, d.Pending())
		}
	}
	// Of a file that is not clean, too.
	d = with(t, make([]byte, 64))
	unplug(d)
	if s, e := Open(d, "s"); s != nil || e != api.ErrDown {
		t.Error(s, e)
	}
}

// A name that is none is found out by the first sector.
func TestNameThatIsNone(t *testing.T) {
	for name, want := range map[string]api.Errno{"": api.ErrArg, strings.Repeat("n", 65): api.ErrArg, strings.Repeat("n", 64): api.OK, "~": api.OK} {
		d := file.New()
		s, _ := Open(d, name)
		if place, e := s.Append([]byte("a")); place != 0 || e != want || s.Broken() != (want != api.OK) {
			t.Errorf("%q: %d, %d, %v", name, place, e, s.Broken())
		}
		if want != api.OK && (s.Count() != 0 || s.Size() != 0 || len(d.Names()) != 0) {
			t.Errorf("%q: %d, %d, %q", name, s.Count(), s.Size(), d.Names())
		}
	}
}

// sector is one that says what is handed in, with data behind.
func sector(first, second byte, data ...byte) []byte {
	return append(append([]byte{first, second}, data...), make([]byte, 62-len(data))...)
}

// P8.1: files that are not clean; ops are what Open does, frames the bodies that it tells.
func TestNotClean(t *testing.T) {
	a := []byte{0, 0, 0, 1, 'a'}
	one := sector(5, 0, a...)
	long := bodyOf(1, 58)
	// full is a sector of one frame that ends just where it does.
	full := sector(62, 0, append([]byte{0, 0, 0, 58}, long...)...)
	none := bytes.Repeat([]byte{0, 0, 0, 0}, 16)[:62]
	change := func(sector []byte, at int, to byte) []byte {
		changed := slices.Clone(sector)
		changed[at] = to
		return changed
	}
	wide := cleanOf([][]byte{[]byte("a"), bodyOf(0, 100), bodyOf(1, 30)})
	for _, c := range []struct {
		what   string
		held   []byte
		frames [][]byte
		ops    string
	}{
		{"no sectors", nil, nil, ""},
		{"one frame", one, [][]byte{[]byte("a")}, ""},
		{"a full sector", full, [][]byte{long}, ""},
		{"a full one and one more", slices.Concat(full, one), [][]byte{long, []byte("a")}, ""},
		{"two full ones", slices.Concat(full, full), [][]byte{long, long}, ""},
		{"three frames", wide, [][]byte{[]byte("a"), bodyOf(0, 100), bodyOf(1, 30)}, ""},
		{"a frame of none", sector(4, 0), [][]byte{{}}, ""},

		{"noughts", make([]byte, 64), nil, "cut 0, sync"},
		{"many noughts", make([]byte, 64*5), nil, "cut 0, sync"},
		{"63", change(one, 0, 63), nil, "cut 0, sync"},
		{"64", change(one, 0, 64), nil, "cut 0, sync"},
		{"128", change(one, 0, 128), nil, "cut 0, sync"},
		{"255", change(one, 0, 255), nil, "cut 0, sync"},
		{"63 behind others", slices.Concat(full, change(full, 0, 63)), [][]byte{long}, "cut 1, sync"},
		{"255 between others", slices.Concat(full, change(full, 0, 255), full), [][]byte{long}, "cut 1, sync"},

		{"second byte", change(one, 1, 1), [][]byte{[]byte("a")}, "put 0, cut 1, sync"},
		{"second byte 255", change(one, 1, 255), [][]byte{[]byte("a")}, "put 0, cut 1, sync"},
		{"second byte of a full one", change(full, 1, 1), [][]byte{long}, "cut 1, sync"},
		{"second byte ahead", slices.Concat(change(full, 1, 9), one), [][]byte{long, []byte("a")}, "put 1, cut 2, sync"},

		{"a byte behind", change(one, 7, 1), [][]byte{[]byte("a")}, "put 0, cut 1, sync"},
		{"the last byte", change(one, 63, 1), [][]byte{[]byte("a")}, "put 0, cut 1, sync"},
		{"the last byte, in the second", slices.Concat(full, change(one, 63, 1)), [][]byte{long, []byte("a")}, "put 1, cut 2, sync"},

		{"one behind", slices.Concat(one, one), [][]byte{[]byte("a")}, "put 0, cut 1, sync"},
		{"noughts behind", slices.Concat(one, make([]byte, 64)), [][]byte{[]byte("a")}, "put 0, cut 1, sync"},
		{"a full one behind", slices.Concat(one, full, full), [][]byte{[]byte("a")}, "put 0, cut 1, sync"},
		{"61 and one behind", slices.Concat(change(full, 0, 61), one), nil, "cut 0, sync"},
		{"a last one filled to 0", slices.Concat(full, make([]byte, 64)), [][]byte{long}, "cut 1, sync"},
		{"noughts between", slices.Concat(full, make([]byte, 64), full), [][]byte{long}, "cut 1, sync"},

		{"a length that is cut", sector(3, 0, 0, 0, 0), nil, "cut 0, sync"},
		{"a length alone", sector(4, 0, 0, 0, 0, 1), nil, "cut 0, sync"},
		{"filled to 1", sector(1, 0), nil, "cut 0, sync"},
		{"a body that is cut", sector(8, 0, append(a, 0, 0, 0)...), [][]byte{[]byte("a")}, "put 0, cut 1, sync"},
		{"a body that lacks one", sector(11, 0, append(a, 0, 0, 0, 3, 1, 2)...), [][]byte{[]byte("a")}, "put 0, cut 1, sync"},
		{"filled further than the frames", change(one, 0, 6), [][]byte{[]byte("a")}, "put 0, cut 1, sync"},
		{"full, further than the frames", change(sector(62, 0, append(a, 0, 0, 1)...), 9, 0xFF), [][]byte{[]byte("a")}, "put 0, cut 1, sync"},
		{"cut behind a full one", slices.Concat(full, sector(3, 0, 0, 0, 0)), [][]byte{long}, "cut 1, sync"},
		{"cut across", slices.Concat(wide[:64], sector(5, 0, wide[66:71]...)), [][]byte{[]byte("a")}, "put 0, cut 1, sync"},
		{"cut at a sector", wide[:64], [][]byte{[]byte("a")}, "put 0, cut 1, sync"},
		{"cut at the second one", wide[:128], [][]byte{[]byte("a"), bodyOf(0, 100)}, "put 1, cut 2, sync"},
		{"noughts up to a cut length", sector(62, 0), slices.Collect(func(yield func([]byte) bool) {
			for range 15 {
				yield(nil)
			}
		}), "put 0, cut 1, sync"},

		{"one too long", sector(4, 0, 0, 1, 0, 1), nil, "cut 0, sync"},
		{"the longest, cut", sector(4, 0, 0, 1, 0, 0), nil, "cut 0, sync"},
		{"far too long", sector(5, 0, 0xFF, 0xFF, 0xFF, 0xFF, 0), nil, "cut 0, sync"},
		{"one too long behind others", sector(14, 0, slices.Concat(a, []byte{0, 1, 0, 1}, a)...), [][]byte{[]byte("a")}, "put 0, cut 1, sync"},
		{"one too long behind none", sector(8, 0, 0, 0, 0, 0, 1, 0, 0, 0), [][]byte{{}}, "put 0, cut 1, sync"},
		{"far too long behind others", sector(15, 0, slices.Concat(a, a, []byte{0x80, 0, 0, 0, 0})...), [][]byte{[]byte("a"), []byte("a")}, "put 0, cut 1, sync"},
		{"one too long behind a full one", slices.Concat(full, sector(4, 0, 0, 1, 0, 1)), [][]byte{long}, "cut 1, sync"},
		{"one too long across", slices.Concat(sector(62, 0, append(bytes.Repeat([]byte{0, 0, 0, 0}, 15), 0, 1)...), sector(2, 0, 0, 1)), slices.Repeat([][]byte{nil}, 15), "put 0, cut 1, sync"},
		{"one too long across, frames behind", slices.Concat(sector(62, 0, append(bytes.Repeat([]byte{0, 0, 0, 0}, 15), 0xFF, 0)...), full), slices.Repeat([][]byte{nil}, 15), "put 0, cut 1, sync"},
		{"frames of none across", slices.Concat(sector(62, 0, none...), sector(2, 0)), slices.Repeat([][]byte{nil}, 16), ""},
	} {
		if !sameBodies(framesOf(c.held), c.frames) {
			t.Errorf("%s: the test's own frames are wrong", c.what)
		}
		var ops []op
		for _, o := range strings.Split(c.ops, ", ") {
			if o != "" {
				ops = append(ops, op(o))
			}
		}
		build := func() (*file.Disk, func() api.Errno) {
			d := with(t, c.held)
			return d, func() api.Errno {
				s, e := Open(d, "s")
				if (s == nil) != (e != api.OK) {
					t.Errorf("%s: %v, %d", c.what, s, e)
				}
				return e
			}
		}
		stopped(t, c.what, build, ops, cleanOf(c.frames))
		d := with(t, c.held)
		s := open(t, d)
		has(t, c.what, s, c.frames)
		if s.Broken() {
			t.Errorf("%s: broken", c.what)
		}
		recovers(t, with(t, c.held))
		// What is appended then stands behind what is left.
		if place, e := s.Append([]byte("z")); place != len(c.frames) || e != api.OK {
			t.Errorf("%s: Append = %d, %d", c.what, place, e)
		}
		has(t, c.what, open(t, d), append(slices.Clone(c.frames), []byte("z")))
	}
}

func sameBodies(a, b [][]byte) bool {
	return slices.EqualFunc(a, b, func(x, y []byte) bool { return bytes.Equal(x, y) })
}

// stopped says that a call makes just these operations, in this order: it is stopped at each of them, and then let through; what stands, what is unsynced and what each crash leaves must be what the operations ahead make.
func stopped(t *testing.T, what string, build func() (*file.Disk, func() api.Errno), ops []op, clean []byte) {
	t.Helper()
	for n := range len(ops) + 1 {
		for _, fail := range []api.Errno{api.ErrIO, api.ErrFull, api.ErrDown} {
			d, call := build()
			ref := d.Copy()
			if e := doAll(ref, clean, ops[:n]); e != api.OK {
				t.Fatalf("%s: %v: %d", what, ops[:n], e)
			}
			want := api.OK
			if n < len(ops) {
				want = fail
			}
			if fail == api.ErrDown {
				d.Arm(n)
			} else {
				d.Fail(n, fail)
			}
			if got := call(); got != want {
				t.Fatalf("%s, stopped at %d of %v: %d, want %d", what, n, ops, got, want)
			}
			if want == api.OK {
				// Whatever is armed is still to come, or more operations were made than these.
				if e := d.SyncNames(); e != fail {
					t.Fatalf("%s: more operations than %v", what, ops)
				}
				if fail == api.ErrDown {
					continue
				}
			} else if want == api.ErrDown {
				unplug(ref)
			}
			sameDisk(t, fmt.Sprintf("%s, %d of %v", what, n, ops), d, ref)
		}
	}
}

// P8.2, P8.3: which operations each call makes, in which order; an error of each of them, and what the segment is then.
func TestOperations(t *testing.T) {
	for _, c := range []struct {
		sizes []int
		call  string
		ops   string
	}{
		{nil, "append 0", "put 0"},
		{nil, "append 1", "put 0"},
		{nil, "append 57", "put 0"},
		{nil, "append 58", "put 0"},
		{nil, "append 59", "put 0, put 1"},
		{nil, "append 120", "put 0, put 1"},
		{nil, "append 121", "put 0, put 1, put 2"},
		{[]int{1}, "append 0", "put 0"},
		{[]int{1}, "append 53", "put 0"},
		{[]int{1}, "append 54", "put 0, put 1"},
		{[]int{1}, "append 60", "put 0, put 1"},
		{[]int{1}, "append 250", "put 0, put 1, put 2, put 3, put 4"},
		{[]int{57}, "append 0", "put 0, put 1"},
		{[]int{57}, "append 1", "put 0, put 1"},
		{[]int{58}, "append 0", "put 1"},
		{[]int{58}, "append 58", "put 1"},
		{[]int{58}, "append 59", "put 1, put 2"},
		{[]int{59}, "append 0", "put 1"},
		{[]int{1, 60, 130}, "append 1", "put 3"},
		{[]int{120}, "append 0", "put 2"},

		{nil, "sync", ""},
		{[]int{0}, "sync", "sync"},
		{[]int{1, 60}, "sync", "sync"},

		{nil, "truncate 0", ""},
		{[]int{1, 2}, "truncate 2", ""},
		{[]int{1}, "truncate 0", "cut 0, sync"},
		{[]int{1, 60, 130}, "truncate 0", "cut 0, sync"},
		{[]int{1, 60, 130}, "truncate 1", "put 0, cut 1, sync"},
		{[]int{1, 60, 130}, "truncate 2", "put 1, cut 2, sync"},
		{[]int{1, 60, 130}, "truncate 3", ""},
		{[]int{1, 2, 3}, "truncate 2", "put 0, cut 1, sync"},
		{[]int{58, 1}, "truncate 1", "cut 1, sync"},
		{[]int{58, 58, 200}, "truncate 1", "cut 1, sync"},
		{[]int{58, 58, 200}, "truncate 2", "cut 2, sync"},
		{[]int{120, 0}, "truncate 1", "cut 2, sync"},
		{[]int{57, 58}, "truncate 1", "put 0, cut 1, sync"},
		{[]int{59, 0}, "truncate 1", "put 1, cut 2, sync"},
	} {
		word, number, _ := strings.Cut(c.call, " ")
		n, _ := strconv.Atoi(number)
		var ops []op
		for _, o := range strings.Split(c.ops, ", ") {
			if o != "" {
				ops = append(ops, op(o))
			}
		}
		list, left := bodies(c.sizes...), bodies(c.sizes...)
		switch word {
		case "append":
			left = append(left, bodyOf(9, n))
		case "truncate":
			left = left[:n]
		}
		for _, synced := range []bool{true, false} {
			build := func() (*file.Disk, func() api.Errno) {
				d, s := filled(t, list)
				if synced {
					s.Sync()
				}
				return d, func() api.Errno {
					var e api.Errno
					switch word {
					case "append":
						var place int
						place, e = s.Append(bodyOf(9, n))
						if e == api.OK && place != len(list) || e != api.OK && place != 0 {
							t.Errorf("%v, %s: %d", c.sizes, c.call, place)
						}
					case "sync":
						e = s.Sync()
					case "truncate":
						e = s.Truncate(n)
					}
					if e == api.OK {
						has(t, c.call, s, left)
						if s.Broken() {
							t.Errorf("%v, %s: broken", c.sizes, c.call)
						}
					} else {
						has(t, c.call, s, list)
						isBroken(t, s)
						has(t, c.call, s, list)
					}
					return e
				}
			}
			stopped(t, fmt.Sprintf("%v, %s, synced %v", c.sizes, c.call, synced), build, ops, cleanOf(left))
		}
	}
}

// isBroken says that a segment is, and that it refuses what it must, whatever else were wrong.
func isBroken(t *testing.T, s *Segment) {
	t.Helper()
	if !s.Broken() {
		t.Error("not broken")
	}
	for _, size := range []int{0, 1, api.MaxFrame, api.MaxFrame + 1} {
		if place, e := s.Append(make([]byte, size)); place != 0 || e != api.ErrIO {
			t.Errorf("Append(%d bytes) of a broken one: %d, %d", size, place, e)
		}
	}
	if e := s.Sync(); e != api.ErrIO {
		t.Errorf("Sync of a broken one: %d", e)
	}
	for _, n := range []int{math.MinInt, -1, 0, s.Count() - 1, s.Count(), s.Count() + 1, math.MaxInt} {
		if e := s.Truncate(n); e != api.ErrIO {
			t.Errorf("Truncate(%d) of a broken one: %d", n, e)
		}
	}
	if !s.Broken() {
		t.Error("broken no more")
	}
}

// A broken one stays so, when the disk works again, too; and does nothing on it.
func TestStaysBroken(t *testing.T) {
	for _, call := range []func(s *Segment) api.Errno{
		func(s *Segment) api.Errno { _, e := s.Append([]byte("b")); return e },
		(*Segment).Sync,
		func(s *Segment) api.Errno { return s.Truncate(0) },
	} {
		d, s := filled(t, bodies(1, 60))
		d.Fail(0, api.ErrFull)
		if e := call(s); e != api.ErrFull {
			t.Error(e)
		}
		was := view(d)
		isBroken(t, s)
		if got := view(d); got != was {
			t.Errorf("a broken one: %s, was %s", got, was)
		}
		has(t, "broken", s, bodies(1, 60))
		unplug(d)
		isBroken(t, s)
		d.Crash(nil)
		isBroken(t, s)
		has(t, "broken", s, bodies(1, 60))
		// Its file is opened anew.
		if x := open(t, d); x.Broken() || x.Count() != 0 {
			t.Error(x.Broken(), x.Count())
		}
		if !s.Broken() {
			t.Error("mended by another one")
		}
	}
}

// What is armed is not spent by what is no operation.
func TestNothingOnTheDisk(t *testing.T) {
	d, s := filled(t, bodies(1, 60))
	d.Fail(0, api.ErrIO)
	was := view(d)
	s.Append(make([]byte, api.MaxFrame+1))
	s.Truncate(-1)
	s.Truncate(2)
	s.Truncate(3)
	s.Read(0)
	s.Read(2)
	s.Count()
	s.Size()
	s.Broken()
	open(t, d)
	Open(d, "x")
	if s.Broken() || view(d) != was {
		t.Error(s.Broken(), view(d))
	}
	if e := s.Sync(); e != api.ErrIO || !s.Broken() {
		t.Error(e)
	}
}

// The errors' order, with two at once.
func TestErrors(t *testing.T) {
	// Without power: what is refused is told first.
	d, s := filled(t, bodies(1, 60))
	unplug(d)
	for _, size := range []int{api.MaxFrame + 1, api.MaxFrame + 2, 2 * api.MaxFrame} {
		if place, e := s.Append(make([]byte, size)); place != 0 || e != api.ErrLong {
			t.Error(size, place, e)
		}
	}
	for _, n := range []int{math.MinInt, -2, -1, 3, 4, math.MaxInt} {
		if e := s.Truncate(n); e != api.ErrArg {
			t.Error(n, e)
		}
		if b, e := s.Read(n); b != nil || e != api.ErrArg {
			t.Error(n, b, e)
		}
	}
	if e := s.Truncate(2); e != api.OK {
		t.Error(e)
	}
	has(t, "without power", s, bodies(1, 60))
	if s.Broken() {
		t.Error("broken")
	}
	if _, e := s.Append(nil); e != api.ErrDown {
		t.Error(e)
	}
	isBroken(t, s)
	has(t, "without power", s, bodies(1, 60))

	// Sync and Truncate without power.
	d, s = filled(t, bodies(1, 60))
	unplug(d)
	if e := s.Sync(); e != api.ErrDown {
		t.Error(e)
	}
	isBroken(t, s)
	d, s = filled(t, bodies(1, 60))
	unplug(d)
	if e := s.Truncate(1); e != api.ErrDown {
		t.Error(e)
	}
	isBroken(t, s)
	has(t, "without power", s, bodies(1, 60))
}

// A segment that is full refuses what is too long as too long, and is not broken by what it refuses; the disk may be full, too.
func TestFull(t *testing.T) {
	sizes := []int{65536, 65536, 65536, 57328}
	list := bodies(sizes...)
	d, s := filled(t, list[:3])
	s.Sync()
	if place, e := s.Append(make([]byte, 57329)); place != 0 || e != api.ErrFull || s.Broken() || d.Pending() != 0 {
		t.Error(place, e, s.Broken(), d.Pending())
	}
	if place, e := s.Append(make([]byte, 65536)); place != 0 || e != api.ErrFull {
		t.Error(place, e)
	}
	if place, e := s.Append(make([]byte, 65537)); place != 0 || e != api.ErrLong {
		t.Error(place, e)
	}
	has(t, "three", s, list[:3])
	if place, e := s.Append(list[3]); place != 3 || e != api.OK {
		t.Fatal(place, e)
	}
	if s.Size() != 253952 || len(bytesOn(t, d)) != 4096*64 || !bytes.Equal(bytesOn(t, d), cleanOf(list)) {
		t.Error(s.Size(), len(bytesOn(t, d)))
	}
	was, held := d.Pending(), bytesOn(t, d)
	d.Fail(0, api.ErrIO)
	for _, size := range []int{0, 1, 65536} {
		if place, e := s.Append(make([]byte, size)); place != 0 || e != api.ErrFull || s.Broken() {
			t.Error(size, place, e, s.Broken())
		}
	}
	if _, e := s.Append(make([]byte, 65537)); e != api.ErrLong {
		t.Error(e)
	}
	if d.Pending() != was || !bytes.Equal(bytesOn(t, d), held) {
		t.Error("a refused one did something")
	}
	if e := d.SyncNames(); e != api.ErrIO {
		t.Error("a refused one made an operation", e)
	}
	has(t, "four", s, list)
	x := open(t, d)
	has(t, "four, opened", x, list)
	if _, e := x.Append(nil); e != api.ErrFull {
		t.Error(e)
	}
	unplug(d)
	if _, e := x.Append(nil); e != api.ErrFull || x.Broken() {
		t.Error(e)
	}
	d.Crash(make([]bool, 0))
	has(t, "behind a crash", open(t, d), list[:3])
}

// Up to the last byte: 4 are left, or 3.
func TestNearlyFull(t *testing.T) {
	for left, want := range map[int]api.Errno{0: api.ErrFull, 1: api.ErrFull, 3: api.ErrFull, 4: api.OK, 5: api.OK} {
		list := bodies(65536, 65536, 65536, 57328-left)
		d, s := filled(t, list)
		if _, e := s.Append([]byte{}); e != want || s.Broken() {
			t.Errorf("%d left: %d", left, e)
		}
		if want == api.OK {
			list = append(list, nil)
		}
		if got := bytesOn(t, d); len(got) != 4096*64 || !bytes.Equal(got, cleanOf(list)) {
			t.Errorf("%d left: %d bytes", left, len(got))
		}
		if _, e := s.Append(make([]byte, 2)); e != api.ErrFull {
			t.Errorf("%d left: %d", left, e)
		}
		if e := s.Truncate(3); e != api.OK {
			t.Error(e)
		}
		if place, e := s.Append(list[3]); place != 3 || e != api.OK {
			t.Error(place, e)
		}
		has(t, "anew", open(t, d), list[:4])
	}
}

// Many frames of no bytes, in a file that is full, and in one with a last one that is too long.
func TestManyFrames(t *testing.T) {
	held := bytes.Repeat(sector(62, 0), 4096)
	d := with(t, held)
	s := open(t, d)
	if s.Count() != 63488 || s.Size() != 253952 || d.Pending() != 0 || !bytes.Equal(bytesOn(t, d), held) {
		t.Error(s.Count(), s.Size(), d.Pending())
	}
	for _, i := range []int{0, 1, 15, 16, 31743, 63487} {
		if b, e := s.Read(i); len(b) != 0 || e != api.OK {
			t.Error(i, b, e)
		}
	}
	held[len(held)-4] = 0xFF
	d = with(t, held)
	s = open(t, d)
	if s.Count() != 63487 || s.Size() != 253948 || len(bytesOn(t, d)) != 4096*64 || bytesOn(t, d)[4095*64] != 58 {
		t.Error(s.Count(), s.Size(), bytesOn(t, d)[4095*64:])
	}
	if place, e := s.Append(nil); place != 63487 || e != api.OK {
		t.Error(place, e)
	}
	if _, e := s.Append(nil); e != api.ErrFull {
		t.Error(e)
	}
	if e := s.Truncate(1); e != api.OK || s.Count() != 1 || len(bytesOn(t, d)) != 64 {
		t.Error(e, s.Count())
	}
}

// A disk that has no room for another file: its ErrFull breaks the segment.
func TestDiskFull(t *testing.T) {
	d := file.New()
	for i := range api.MaxFiles {
		d.Put(strconv.Itoa(i), 0, make([]byte, 64))
	}
	s := open(t, d)
	if place, e := s.Append(nil); place != 0 || e != api.ErrFull {
		t.Error(place, e)
	}
	isBroken(t, s)
	if e := s.Sync(); e != api.ErrIO {
		t.Error(e)
	}
}

// P8.2, P8.4: bodies at the edges, alone and behind one another.
func TestBodies(t *testing.T) {
	sizes := []int{0, 1, 2, 53, 54, 57, 58, 59, 61, 62, 63, 119, 120, 121, 182, 1000, 65535, 65536}
	for _, first := range sizes {
		for _, second := range sizes {
			list := bodies(first, second, 0)
			d, s := filled(t, list)
			if got := bytesOn(t, d); !bytes.Equal(got, cleanOf(list)) {
				t.Fatalf("%d, %d: %x", first, second, got)
			}
			has(t, "appended", s, list)
			has(t, "opened", open(t, d), list)
			for n := range 3 {
				c := d.Copy()
				x := open(t, c)
				if e := x.Truncate(n); e != api.OK {
					t.Fatal(e)
				}
				has(t, "truncated", x, list[:n])
				if got := bytesOn(t, c); !bytes.Equal(got, cleanOf(list[:n])) || c.Pending() != 0 {
					t.Fatalf("%d, %d, Truncate(%d): %x", first, second, n, got)
				}
			}
		}
	}
	d, s := filled(t, nil)
	if place, e := s.Append(make([]byte, 65537)); place != 0 || e != api.ErrLong || len(d.Names()) != 0 || s.Broken() {
		t.Error(place, e)
	}
}

// P8.2: a file that is not there is made by the first sector, and synced with it.
func TestSyncOfNoFile(t *testing.T) {
	d := file.New()
	s := open(t, d)
	d.Fail(0, api.ErrIO)
	for range 2 {
		if e := s.Sync(); e != api.OK || s.Broken() {
			t.Error(e)
		}
	}
	if _, e := s.Append(nil); e != api.ErrIO {
		t.Error(e)
	}
	s = open(t, d)
	s.Append(nil)
	if d.Pending() != 2 || s.Sync() != api.OK || d.Pending() != 0 {
		t.Error(d.Pending())
	}
	d.Crash(nil)
	has(t, "synced", open(t, d), [][]byte{nil})
	// A file without frames is there, and is synced.
	s = open(t, d)
	s.Truncate(0)
	d.Fail(0, api.ErrIO)
	if e := s.Sync(); e != api.ErrIO || !s.Broken() {
		t.Error(e)
	}
}

// A file that somebody took away, or cut: the disk's answers are the segment's.
func TestFileTakenAway(t *testing.T) {
	away := func(sizes ...int) (*file.Disk, *Segment) {
		d, s := filled(t, bodies(sizes...))
		d.Remove("s")
		return d, s
	}
	_, s := away(1, 60)
	if e := s.Sync(); e != api.OK || s.Broken() || s.Count() != 2 {
		t.Error(e)
	}
	if e := s.Truncate(2); e != api.OK {
		t.Error(e)
	}
	if e := s.Truncate(0); e != api.ErrFile || s.Count() != 2 {
		t.Error(e)
	}
	isBroken(t, s)
	_, s = away(1, 60)
	if place, e := s.Append(nil); place != 0 || e != api.ErrArg || s.Count() != 2 {
		t.Error(place, e)
	}
	isBroken(t, s)
	d, s := away(1)
	if place, e := s.Append(nil); place != 1 || e != api.OK || !bytes.Equal(bytesOn(t, d), cleanOf(bodies(1, 0))) {
		t.Error(place, e)
	}
	d, s = filled(t, bodies(1, 60, 130))
	d.Cut("s", 0)
	if e := s.Truncate(2); e != api.ErrArg {
		t.Error(e)
	}
	isBroken(t, s)
}

// Two segments of one disk have nothing to do with each other but for the disk.
func TestTwoFiles(t *testing.T) {
	d := file.New()
	one, _ := Open(d, "a")
	two, _ := Open(d, "b")
	for i := range 10 {
		one.Append(bodyOf(i, 40))
		two.Append(bodyOf(i+20, 50))
	}
	one.Sync()
	c := d.Copy()
	c.Crash(nil)
	again, _ := Open(c, "a")
	if other, _ := Open(c, "b"); again.Count() != 10 || other.Count() != 0 {
		t.Error(again.Count(), other.Count())
	}
	one.Truncate(3)
	if one.Count() != 3 || two.Count() != 10 {
		t.Error(one.Count(), two.Count())
	}
	for i := range 10 {
		if b, _ := two.Read(i); !bytes.Equal(b, bodyOf(i+20, 50)) {
			t.Error(i, b)
		}
	}
	d.Fail(0, api.ErrIO)
	one.Append(nil)
	if !one.Broken() || two.Broken() {
		t.Error(one.Broken(), two.Broken())
	}
	if _, e := two.Append(nil); e != api.OK {
		t.Error(e)
	}
}

// P8.3: frames behind a truncation, at the places that became free.
func TestTruncateAndAppend(t *testing.T) {
	s := script(t, "append 1; append 60; append 130; truncate 2; append 7; truncate 3; shorten; append 58; shorten; shorten; append 200; truncate 0; append 0; open; append 3; truncate 1; open; append 58")
	if got := s.seg.Count(); got != 2 {
		t.Error(got)
	}
	sameDisk(t, "behind all", s.disk, s.ref)
}

// R3: what is handed in is neither changed nor kept.
func TestHandedIn(t *testing.T) {
	d := file.New()
	s := open(t, d)
	var want [][]byte
	for i, size := range []int{0, 3, 70, 54, 1, 300} {
		spare := bodyOf(i, size+100)
		was := slices.Clone(spare)
		body := spare[:size]
		want = append(want, slices.Clone(body))
		if _, e := s.Append(body); e != api.OK {
			t.Fatal(e)
		}
		if !bytes.Equal(spare, was) {
			t.Errorf("%d bytes: changed", size)
		}
		for j := range spare {
			spare[j] = 0xEE
		}
		has(t, "what was handed in is changed", s, want)
		if !bytes.Equal(bytesOn(t, d), cleanOf(want)) {
			t.Errorf("%d bytes: kept", size)
		}
	}
	// The bytes that the disk tells are not the segment's either.
	held := bytesOn(t, d)
	x := open(t, d)
	for i := range held {
		held[i] = 0xEE
	}
	has(t, "opened", x, want)
}

// R3: what is handed out is new, its spare room too.
func TestHandedOut(t *testing.T) {
	list := bodies(5, 0, 70, 9, 120)
	d, s := filled(t, list)
	other := d.Copy()
	for _, on := range []struct {
		disk *file.Disk
		seg  *Segment
	}{{d, s}, {other, open(t, other)}} {
		var answers [][]byte
		for range 2 {
			for i := range list {
				b, _ := on.seg.Read(i)
				answers = append(answers, b)
			}
		}
		for i, b := range answers {
			b = b[:cap(b)]
			for j := range b {
				b[j] = 0xEE
			}
			for k, other := range answers[i+1:] {
				if n := (i + 1 + k) % len(list); !bytes.Equal(other, list[n]) {
					t.Errorf("answers %d and %d share memory", i, i+1+k)
				}
			}
			has(t, "an answer is changed", on.seg, list)
		}
		// What is put from now on is what was appended, not what the answers are now.
		if e := on.seg.Truncate(3); e != api.OK || !bytes.Equal(bytesOn(t, on.disk), cleanOf(list[:3])) {
			t.Errorf("Truncate: %d, %x", e, bytesOn(t, on.disk))
		}
	}
}

// Frames that were truncated are not told again, whatever is appended in their place; what was read of them stays.
func TestTruncatedStaysRead(t *testing.T) {
	list := bodies(5, 40, 70)
	_, s := filled(t, list)
	first, _ := s.Read(1)
	s.Truncate(1)
	s.Append(bodyOf(8, 40))
	if !bytes.Equal(first, list[1]) {
		t.Errorf("%x", first)
	}
	has(t, "anew", s, [][]byte{list[0], bodyOf(8, 40)})
}

// R5.
func TestNoSegment(t *testing.T) {
	_, s := filled(t, bodies(1, 60))
	moved := *s
	broken := &Segment{broken: true}
	for i, none := range []*Segment{nil, new(Segment), {}, &moved, broken} {
		for range 2 {
			for _, size := range []int{0, 1, api.MaxFrame + 1} {
				if place, e := none.Append(make([]byte, size)); place != 0 || e != api.ErrNil {
					t.Error(i, place, e)
				}
			}
			if e := none.Sync(); e != api.ErrNil {
				t.Error(i, e)
			}
			for _, n := range []int{-1, 0, 1, 9} {
				if e := none.Truncate(n); e != api.ErrNil {
					t.Error(i, e)
				}
				if b, e := none.Read(n); b != nil || e != api.ErrNil {
					t.Error(i, b, e)
				}
			}
			if none.Count() != 0 || none.Size() != 0 || none.Broken() {
				t.Error(i, none.Count(), none.Size(), none.Broken())
			}
		}
	}
	has(t, "the one that was copied", s, bodies(1, 60))
}

// R4, R6: the same past tells the same, and none is as good as an empty body.
func TestSamePast(t *testing.T) {
	var views []string
	for _, none := range [][]byte{nil, {}, make([]byte, 0, 9)} {
		d, s := filled(t, [][]byte{none, []byte("a"), none})
		s.Sync()
		s.Append(none)
		views = append(views, view(d), fmt.Sprint(s.Count(), s.Size()))
	}
	if views[0] != views[2] || views[0] != views[4] || views[1] != views[3] || views[1] != views[5] {
		t.Error(views)
	}
}
