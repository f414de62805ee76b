package segment

import (
	"bytes"
	"fmt"
	"strings"
	"testing"

	"conduit/api"
	"conduit/file"
)

// recovers says of a disk behind a crash that Open tells the file's frames and leaves what it must; and that its power may go at any operation of it, and a crash keep any mix of them: the frames stay.
func recovers(t *testing.T, d *file.Disk) {
	t.Helper()
	want := framesOf(bytesOn(t, d))
	for ops := 0; ; ops++ {
		c, ref := d.Copy(), d.Copy()
		c.Arm(ops)
		ref.Arm(ops)
		s, e := Open(c, "s")
		if _, wanted := opened(ref); e != wanted || view(c) != view(ref) {
			t.Fatalf("Open, %d operations: %d, want %d\n got %s\nwant %s", ops, e, wanted, view(c), view(ref))
		}
		if e == api.OK {
			has(t, "Open", s, want)
			c.Crash(nil)
			if got := framesOf(bytesOn(t, c)); !sameBodies(got, want) {
				t.Fatalf("behind Open: %x, want %x", got, want)
			}
			return
		}
		for _, keep := range keepings(c.Pending()) {
			k := c.Copy()
			k.Crash(keep)
			if got := framesOf(bytesOn(t, k)); !sameBodies(got, want) {
				t.Fatalf("Open, %d operations, crash %v: %x, want %x", ops, keep, got, want)
			}
		}
	}
}

// crashes holds each crash of what a row of calls left against P8.5, and has the file opened behind each. seen are files that were opened already.
func crashes(t *testing.T, what string, s *sut, seen map[string]int) {
	t.Helper()
	for _, keep := range keepings(s.disk.Pending()) {
		c, ref := s.disk.Copy(), s.ref.Copy()
		c.Crash(keep)
		ref.Crash(keep)
		held := bytesOn(t, c)
		if !bytes.Equal(held, bytesOn(t, ref)) {
			t.Fatalf("%s, crash %v:\n got %x\nwant %x", what, keep, held, bytesOn(t, ref))
		}
		s.kept(t, fmt.Sprintf("%s, crash %v", what, keep), c)
		if seen[string(held)]++; seen[string(held)] == 1 {
			recovers(t, c)
		}
	}
}

// rows are all rows of n of these lines.
func rows(n int, lines []string) [][]string {
	if n == 0 {
		return [][]string{nil}
	}
	var all [][]string
	for _, ahead := range rows(n-1, lines) {
		for _, line := range lines {
			all = append(all, append(ahead[:len(ahead):len(ahead)], line))
		}
	}
	return all
}

// inARow does the lines on a new disk, the last one with the power gone behind so many operations of it; it answers whether it was let through.
func inARow(t *testing.T, ahead string, lines []string, ops int) (*sut, bool) {
	t.Helper()
	s := script(t, ahead)
	for _, line := range lines[:len(lines)-1] {
		s.run(t, line)
	}
	s.run(t, fmt.Sprint("arm ", ops))
	return s, s.run(t, lines[len(lines)-1]) != api.ErrDown
}

// P8.5: every row of calls up to that length, the power gone at every operation of the last one, every mix of up to eight unsynced steps.
func everyRow(t *testing.T, ahead string, longest int, lines ...string) {
	t.Helper()
	seen := map[string]int{}
	for n := 1; n <= longest; n++ {
		for _, row := range rows(n, lines) {
			for ops := 0; ; ops++ {
				s, through := inARow(t, ahead, row, ops)
				what := fmt.Sprintf("%s; %s, %d operations", ahead, strings.Join(row, "; "), ops)
				crashes(t, what, s, seen)
				if through {
					break
				}
			}
		}
	}
}

func TestEveryShortRow(t *testing.T) {
	t.Parallel()
	everyRow(t, "", 4, "append 1", "append 58", "append 60", "append 130", "sync", "truncate 0", "shorten", "open")
}

// Behind frames that are synced, in sectors that a truncation frees.
func TestEveryRowBehindASync(t *testing.T) {
	t.Parallel()
	everyRow(t, "append 58; append 182; append 20; append 130; sync", 3, "append 0", "append 100", "append 182", "sync", "truncate 0", "truncate 1", "truncate 2", "shorten", "open")
	everyRow(t, "append 1; append 200; sync; append 60; append 58", 3, "append 52", "append 120", "sync", "truncate 0", "truncate 1", "shorten", "open")
}

// Behind a crash that left a file that is not clean.
func TestEveryRowBehindACrash(t *testing.T) {
	t.Parallel()
	everyRow(t, "append 1; sync; append 150; append 100; crash 11; open", 3, "append 3", "append 150", "sync", "truncate 0", "shorten", "open")
	everyRow(t, "append 58; sync; append 150; append 100; crash 101; open", 3, "append 3", "append 150", "sync", "truncate 0", "shorten", "open")
	everyRow(t, "append 130; sync; truncate 0; append 150; crash 01; open", 3, "append 3", "append 150", "sync", "truncate 0", "shorten", "open")
}

// anyLine is a call, or a failure of the disk.
func anyLine(next func(int) int) string {
	sizes := []int{0, 1, 20, 53, 57, 58, 59, 62, 120, 130, 182, 400}
	switch k := next(20); {
	case k < 9:
		return fmt.Sprint("append ", sizes[next(len(sizes))])
	case k < 12:
		return "sync"
	case k < 14:
		return fmt.Sprint("truncate ", next(8)-1)
	case k < 16:
		return "shorten"
	case k < 18:
		return "open"
	case k < 19:
		return fmt.Sprint("fail ", next(9), " ", 4+next(2))
	}
	return fmt.Sprint("arm ", next(12))
}

// Long rows: all that is told is what the model tells, and behind each crash P8.5 holds.
func TestLongRows(t *testing.T) {
	t.Parallel()
	for seed := range uint64(400) {
		next := row(seed)
		s := begun(t)
		for range 60 {
			s.run(t, anyLine(next))
			if !s.seg.Broken() && next(12) > 0 {
				continue
			}
			if next(4) == 0 {
				crashes(t, fmt.Sprint("seed ", seed), s, map[string]int{})
			}
			// A broken one whose disk has its power is opened anew without a crash, too.
			if next(2) == 0 && s.run(t, "open") == api.OK {
				continue
			}
			for again := true; again; again = next(3) == 0 {
				keep := make([]bool, s.disk.Pending())
				for i := range keep {
					keep[i] = next(2) == 0
				}
				s.crash(t, keep)
				s.run(t, fmt.Sprint("arm ", next(4)))
				s.run(t, "open")
			}
			s.crash(t, nil)
			if e := s.run(t, "open"); e != api.OK {
				t.Fatalf("seed %d: Open: %d", seed, e)
			}
		}
	}
}

// A Truncate whose sync failed leaves a clean file with a cut that is unsynced: Open makes no operation of it, and a Sync behind it settles the cut.
func TestSyncBehindAFailedTruncate(t *testing.T) {
	list := bodies(58, 182)
	d, s := filled(t, list)
	s.Sync()
	d.Fail(1, api.ErrIO)
	if e := s.Truncate(1); e != api.ErrIO || !s.Broken() {
		t.Fatal(e)
	}
	s = open(t, d)
	if s.Count() != 1 || d.Pending() != 1 {
		t.Fatal(s.Count(), d.Pending())
	}
	if e := s.Sync(); e != api.OK {
		t.Fatal(e)
	}
	s.Append(bodyOf(4, 182))
	may := [][]byte{list[0], bodyOf(4, 182)}
	for _, keep := range keepings(d.Pending()) {
		c := d.Copy()
		c.Crash(keep)
		got := framesOf(bytesOn(t, c))
		if len(got) < 1 || len(got) > 2 || !sameBodies(got, may[:len(got)]) {
			t.Errorf("crash %v: %x", keep, got)
		}
	}
}
