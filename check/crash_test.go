package check

import (
	"fmt"
	"slices"
	"testing"

	"conduit/api"
	"conduit/file"
)

// P11.3: all disks that any number of Saves of these bodies leave of one, each let through or crashed at any operation, with any mix of what was not synced.
func everyDisk(t *testing.T, begin *file.Disk, bodies ...[]byte) {
	t.Helper()
	type place struct {
		disk *file.Disk
		is   told
	}
	seen := map[string]int{}
	var waiting []place
	reach := func(p place) {
		if key := view(p.disk); seen[key] == 0 {
			seen[key]++
			waiting = append(waiting, p)
		}
	}
	reach(place{begin, load(t, "", begin, "c")})
	for len(waiting) > 0 {
		from := waiting[0]
		waiting = waiting[1:]
		for i, b := range bodies {
			for ops := 0; ; ops++ {
				d := from.disk.Copy()
				d.Arm(ops)
				e := Save(d, "c", b)
				if e != api.OK && e != api.ErrDown {
					t.Fatalf("body %d behind %s: %d operations, %d", i, from.is, ops, e)
				}
				for _, keep := range keepings(d.Pending()) {
					c := d.Copy()
					c.Crash(keep)
					got := load(t, "", c, "c")
					if got != body(b) && (e == api.OK || got != from.is) {
						t.Fatalf("body %d behind %s: %d operations, %d, crash %v: %s", i, from.is, ops, e, keep, got)
					}
					reach(place{c, got})
				}
				if e == api.OK {
					break
				}
			}
		}
	}
}

func TestEveryDisk(t *testing.T) {
	t.Parallel()
	for _, bodies := range [][][]byte{
		{nil, []byte("a"), []byte("b")},
		{bodyOf(0, 1), bodyOf(1, 58), bodyOf(2, 59)},
		{bodyOf(4, 120), bodyOf(5, 120), bodyOf(7, 60)},
		{bodyOf(3, 182), bodyOf(9, 20), bodyOf(12, 300)},
		// Those that hold what looks like another one's file.
		{[]byte("a"), cleanOf([]byte("a"))[2:], cleanOf(bodyOf(3, 58)), cleanOf([]byte("a"), []byte("b"))},
	} {
		everyDisk(t, file.New(), bodies...)
	}
}

// Likewise with something old beside.
func TestEveryDiskBehind(t *testing.T) {
	t.Parallel()
	for _, c := range besideCases() {
		d := file.New()
		save(t, c.what, d, "c", []byte("old"))
		c.lay(t, d)
		everyDisk(t, d, []byte("a"), bodyOf(1, 130))
	}
}

// sut is a disk and a model's, which are told the same; may are what Load may tell of each name behind a crash.
type sut struct {
	disk, ref *file.Disk
	may       map[string][]told
	count     int
}

var sutNames = []string{"c", "d", "c~~"}

func begun() *sut {
	s := &sut{disk: file.New(), ref: file.New(), may: map[string][]told{}}
	for _, name := range sutNames {
		s.may[name] = []told{{}}
	}
	return s
}

func (s *sut) save(t *testing.T, what, name string, size int) api.Errno {
	t.Helper()
	s.count++
	b := bodyOf(s.count, size)
	e := Save(s.disk, name, b)
	if want := modelSave(s.ref, name, b); e != want {
		t.Fatalf("%s: Save of %q, %d bytes: %d, want %d", what, name, size, e, want)
	}
	if view(s.disk) != view(s.ref) {
		t.Fatalf("%s: Save of %q, %d bytes:\n got %q\nwant %q", what, name, size, view(s.disk), view(s.ref))
	}
	if e == api.OK {
		s.may[name] = nil
	}
	s.may[name] = append(s.may[name], body(b))
	return e
}

func (s *sut) arm(ops int, e api.Errno) {
	arm(s.disk, ops, e)
	arm(s.ref, ops, e)
}

// tells says that Load tells of each name one of those that it may; it answers which.
func (s *sut) tells(t *testing.T, what string, d *file.Disk) map[string]told {
	t.Helper()
	is := map[string]told{}
	for _, name := range sutNames {
		is[name] = load(t, what, d, name)
		if !slices.Contains(s.may[name], is[name]) {
			t.Fatalf("%s: %q is %s, not one of %s", what, name, is[name], s.may[name])
		}
	}
	return is
}

// crashes says of each crash what tells says.
func (s *sut) crashes(t *testing.T, what string) {
	t.Helper()
	sameDisk(t, what, s.disk, s.ref)
	for _, keep := range keepings(s.disk.Pending()) {
		c := s.disk.Copy()
		c.Crash(keep)
		s.tells(t, fmt.Sprintf("%s, crash %v", what, keep), c)
	}
}

// crash crashes both; what is told then stays till a Save.
func (s *sut) crash(t *testing.T, what string, keep []bool) {
	t.Helper()
	s.disk.Crash(keep)
	s.ref.Crash(keep)
	for name, is := range s.tells(t, what, s.disk) {
		s.may[name] = []told{is}
	}
}

// Long rows of Saves of some names, with failures of the disk and crashes: all is what the model does, and behind each crash P11.3 holds.
func TestLongRows(t *testing.T) {
	t.Parallel()
	sizes := []int{0, 1, 20, 57, 58, 59, 60, 120, 121, 182, 183, 400}
	for seed := range uint64(300) {
		next := row(seed)
		s := begun()
		for range 50 {
			what := fmt.Sprint("seed ", seed, ", Save ", s.count)
			switch next(4) {
			case 0:
				s.arm(next(14), api.ErrDown)
			case 1:
				s.arm(next(14), []api.Errno{api.ErrIO, api.ErrFull}[next(2)])
			}
			e := s.save(t, what, sutNames[next(len(sutNames))], sizes[next(len(sizes))])
			if next(6) == 0 {
				s.crashes(t, what)
			}
			if e != api.ErrDown && next(5) > 0 {
				continue
			}
			keep := make([]bool, s.disk.Pending())
			for i := range keep {
				keep[i] = next(2) == 0
			}
			s.crash(t, what, keep)
		}
	}
}

// Saves that the disk stops, its power there, with no crash between: what each of them left is not in the way of the next one.
func TestFailedSaves(t *testing.T) {
	t.Parallel()
	for first := range 12 {
		for second := range 12 {
			for third := range 12 {
				s := begun()
				what := fmt.Sprint(first, ", ", second, ", ", third, " operations")
				s.save(t, what, "c", 130)
				for i, ops := range []int{first, second, third} {
					s.arm(ops, api.ErrIO)
					s.save(t, what, "c", []int{200, 58, 70}[i])
				}
				s.crashes(t, what)
				s.arm(1<<20, api.ErrIO)
				if e := s.save(t, what, "c", 20); e != api.OK {
					t.Fatal(what, e)
				}
				s.crashes(t, what)
			}
		}
	}
}
