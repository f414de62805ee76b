package plog

import (
	"fmt"
	"strings"
	"testing"

	"conduit/api"
	"conduit/file"
)

// recovers says of a disk behind a crash that the power may go at any operation of an Open, and a crash keep any mix of them: the next one tells the same.
func recovers(t *testing.T, what string, d *file.Disk, most int, want *model) {
	t.Helper()
	for ops := 0; ; ops++ {
		c, ref := d.Copy(), d.Copy()
		c.Arm(ops)
		ref.Arm(ops)
		_, e := Open(c, "log", most, 1)
		if _, wanted := modelOf(ref, most, 1); e != wanted || view(c) != view(ref) {
			t.Fatalf("%s, Open, %d operations: %d, want %d\n got %q\nwant %q", what, ops, e, wanted, view(c), view(ref))
		}
		for _, keep := range keepings(c.Pending()) {
			k := c.Copy()
			k.Crash(keep)
			if got, e := modelOf(k, most, 1); e != api.OK || got.first != want.first || !sameBodies(got.bodies, want.bodies) {
				t.Fatalf("%s, Open, %d operations, crash %v: %d, %v, want %v", what, ops, keep, e, got, want)
			}
		}
		if e == api.OK {
			return
		}
	}
}

// crashes holds each crash of what a row of calls left against P10.6, and has the log opened behind each. seen are disks that were opened already.
func crashes(t *testing.T, what string, s *sut, seen map[string]int) {
	t.Helper()
	for _, keep := range keepings(s.disk.Pending()) {
		c, ref := s.disk.Copy(), s.ref.Copy()
		c.Crash(keep)
		ref.Crash(keep)
		held := view(c)
		if held != view(ref) {
			t.Fatalf("%s, crash %v:\n got %q\nwant %q", what, keep, held, view(ref))
		}
		m := s.kept.opens(t, fmt.Sprintf("%s, crash %v", what, keep), c, s.most)
		if seen[held]++; seen[held] == 1 && !s.kept.failed {
			recovers(t, fmt.Sprintf("%s, crash %v", what, keep), c, s.most, m)
		}
	}
}

// rows are all rows of n of these lines.
func rows(n int, lines []string) [][]string {
	if n == 0 {
		return [][]string{nil}
	}
	var all [][]string
	for _, ahead := range rows(n-1, lines) {
		for _, line := range lines {
			all = append(all, append(ahead[:len(ahead):len(ahead)], line))
		}
	}
	return all
}

// inARow does the lines on a new disk, the last one with the power gone behind so many operations of it; it answers whether it was let through.
func inARow(t *testing.T, most int, ahead string, lines []string, ops int) (*sut, bool) {
	t.Helper()
	s := script(t, most, ahead)
	for _, line := range lines[:len(lines)-1] {
		s.run(t, line)
	}
	s.run(t, fmt.Sprint("arm ", ops))
	return s, s.run(t, lines[len(lines)-1]) != api.ErrDown
}

// everyRow: every row of calls up to that length, the power gone at every operation of the last one, every mix of up to six unsynced steps.
func everyRow(t *testing.T, most int, ahead string, longest int, lines ...string) {
	t.Helper()
	seen := map[string]int{}
	for n := 1; n <= longest; n++ {
		for _, row := range rows(n, lines) {
			for ops := 0; ; ops++ {
				s, through := inARow(t, most, ahead, row, ops)
				what := fmt.Sprintf("%s; %s, %d operations", ahead, strings.Join(row, "; "), ops)
				crashes(t, what, s, seen)
				if through {
					break
				}
			}
		}
	}
}

// P10.6, from a new disk on.
func TestEveryShortRow(t *testing.T) {
	t.Parallel()
	everyRow(t, 60, "", 4, "append 1", "append 58", "append 130", "sync", "empty", "shorten 1", "droplast 0", "restart 3", "open")
}

// Behind segments that are synced, and some that are not.
func TestEveryRowBehindSegments(t *testing.T) {
	t.Parallel()
	lines := []string{"append 0", "append 100", "sync", "empty", "shorten 1", "shorten 2", "shorten 3", "droplast 0", "droplast 1", "droplast 3", "restart 9", "open"}
	everyRow(t, 64, "append 20; append 60; append 20; append 60; append 58; append 58; append 1; sync", 2, lines...)
	everyRow(t, 64, "append 20; append 60; sync; append 20; append 60; append 58; append 58; append 1", 2, lines...)
	everyRow(t, 1, "append 20; append 60; append 70; append 0", 2, lines...)
}

// Behind a crash that left a file without frames, one that is not clean, and files of which the log has more than its name's first digits.
func TestEveryRowBehindACrash(t *testing.T) {
	t.Parallel()
	lines := []string{"append 3", "append 130", "sync", "empty", "shorten 0", "shorten 1", "droplast 0", "droplast 1", "restart 2", "open"}
	everyRow(t, 60, "append 1; append 58; append 58; crash 1; open", 3, lines...)
	everyRow(t, 60, "append 1; append 58; append 3; append 130; crash 1101; open", 2, lines...)
	everyRow(t, 60, "restart 8; append 60; append 60; append 60; append 1; crash 11; open", 2, lines...)
}

// anyLine is a call, or a failure of the disk.
func anyLine(next func(int) int) string {
	sizes := []int{0, 1, 20, 53, 57, 58, 59, 62, 120, 130, 182, 400}
	switch k := next(24); {
	case k < 10:
		return fmt.Sprint("append ", sizes[next(len(sizes))])
	case k < 12:
		return "sync"
	case k < 14:
		return fmt.Sprint("shorten ", next(6)-1)
	case k < 15:
		return "empty"
	case k < 18:
		return fmt.Sprint("droplast ", next(7)-1)
	case k < 19:
		return fmt.Sprint("restart ", next(20))
	case k < 22:
		return "open"
	case k < 23:
		return fmt.Sprint("fail ", next(9), " ", 4+next(2))
	}
	return fmt.Sprint("arm ", next(12))
}

// Long rows: all that is told is what the model tells, and behind each crash P10.6 holds.
func TestLongRows(t *testing.T) {
	t.Parallel()
	for seed := range uint64(500) {
		next := row(seed)
		s := begun(t, []int{1, 30, 64, 100, 300}[seed%5])
		for range 60 {
			s.run(t, anyLine(next))
			if !s.log.Broken() && next(15) > 0 {
				continue
			}
			if next(4) == 0 {
				crashes(t, fmt.Sprint("seed ", seed), s, map[string]int{})
			}
			// A broken one whose disk has its power is opened anew without a crash, too.
			if next(2) == 0 && s.run(t, "open") == api.OK {
				continue
			}
			for again := true; again; again = next(3) == 0 {
				keep := make([]bool, s.disk.Pending())
				for i := range keep {
					keep[i] = next(2) == 0
				}
				s.crash(t, keep)
				s.run(t, fmt.Sprint("arm ", next(4)))
				s.run(t, "open")
			}
			s.crash(t, nil)
			if e := s.run(t, "open"); e != api.OK {
				t.Fatalf("seed %d: Open: %d", seed, e)
			}
		}
	}
}

// A log goes on behind crashes: what was synced is told, again and again.
func TestCrashAndGoOn(t *testing.T) {
	s := begun(t, 100)
	for i := range 40 {
		for range 3 {
			if e := s.run(t, fmt.Sprint("append ", 20+i)); e != api.OK {
				t.Fatal(e)
			}
		}
		if i%2 == 0 {
			s.run(t, "sync")
		}
		was, synced := s.log.Last(), s.log.Synced()
		s.crash(t, []bool{i%3 == 0, i%5 == 0, true})
		if e := s.run(t, "open"); e != api.OK || s.log.Last() < synced || s.log.Last() > was || s.log.Synced() != s.log.Last() {
			t.Fatalf("%d: Open: %d, Last %d, was %d, %d synced", i, e, s.log.Last(), was, synced)
		}
		if i%7 == 6 {
			s.run(t, "droplast 4")
		}
	}
}

// A TruncateAfter whose names could not be synced, with the power there, leaves a file taken away that a crash brings back: once the disk's names are synced, it does not.
func TestNamesSyncedBehindAFailedTruncate(t *testing.T) {
	s := script(t, 100, "append 20; append 80; append 20; sync")
	s.run(t, "fail 1 4")
	if e := s.run(t, "truncate 2"); e != api.ErrIO {
		t.Fatal(e)
	}
	if e := s.run(t, "open"); e != api.OK || s.log.Last() != 2 || s.disk.Pending() != 1 {
		t.Fatal(e, s.log.Last(), s.disk.Pending())
	}
	s.ref.SyncNames()
	if e := s.disk.SyncNames(); e != api.OK {
		t.Fatal(e)
	}
	s.kept.failed = false
	s.run(t, "append 7")
	crashes(t, "names synced", s, map[string]int{})
}
