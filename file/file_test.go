package file

import (
	"bytes"
	"fmt"
	"math"
	"reflect"
	"slices"
	"strconv"
	"strings"
	"testing"

	"conduit/api"
)

func full(b byte) []byte {
	return bytes.Repeat([]byte{b}, 64)
}

// text is a file's sectors by their first bytes; a sector that is not 64 times the same byte is told by a question mark.
func text(b []byte) string {
	told := ""
	for ; len(b) >= 64; b = b[64:] {
		switch {
		case !bytes.Equal(b[:64], full(b[0])):
			told += "?"
		case b[0] == 0:
			told += "0"
		default:
			told += string(b[:1])
		}
	}
	if len(b) > 0 {
		told += "?"
	}
	return told
}

// look is the disk as name=sectors, by Names and Read.
func look(t *testing.T, d *Disk) string {
	t.Helper()
	var told []string
	for _, name := range d.Names() {
		b, e := d.Read(name)
		if e != api.OK {
			t.Fatalf("Read(%q): %d", name, e)
		}
		told = append(told, name+"="+text(b))
	}
	return strings.Join(told, " ")
}

// run does one line: put name sector byte, cut name n, rename a b, remove name, sync name, names, arm n, fail n e, crash 101.
func run(t *testing.T, d calls, line string) api.Errno {
	t.Helper()
	words := strings.Split(line, " ")
	number := func(i int) int {
		n, err := strconv.Atoi(words[i])
		if err != nil {
			t.Fatal(err)
		}
		return n
	}
	switch words[0] {
	case "put":
		return d.Put(words[1], number(2), full(words[3][0]))
	case "cut":
		return d.Cut(words[1], number(2))
	case "rename":
		return d.Rename(words[1], words[2])
	case "remove":
		return d.Remove(words[1])
	case "sync":
		return d.Sync(words[1])
	case "names":
		return d.SyncNames()
	case "arm":
		return d.Arm(number(1))
	case "fail":
		return d.Fail(number(1), api.Errno(number(2)))
	case "crash":
		return d.Crash(keeping(words[1]))
	}
	t.Fatalf("no such line: %q", line)
	return 0
}

func keeping(s string) []bool {
	var keep []bool
	for _, c := range s {
		if c != '-' {
			keep = append(keep, c == '1')
		}
	}
	return keep
}

// script makes a disk by lines, parted by ';', each of which is answered OK.
func script(t *testing.T, lines string) *Disk {
	t.Helper()
	d := New()
	more(t, d, lines)
	return d
}

func more(t *testing.T, d *Disk, lines string) {
	t.Helper()
	for _, line := range strings.Split(lines, "; ") {
		if e := run(t, d, line); line != "" && e != api.OK {
			t.Fatalf("%s: %s: %d", lines, line, e)
		}
	}
}

// answer holds what a line is answered against what it should be; beside an error nothing that is told may change, but that a disk that loses its power lets no file be read.
func answer(t *testing.T, d *Disk, line string, want api.Errno) {
	t.Helper()
	before, names, pending := view(d), d.Names(), d.Pending()
	if e := run(t, d, line); e != want {
		t.Errorf("%s: %d, want %d", line, e, want)
	}
	if want == api.OK {
		return
	}
	if !slices.Equal(d.Names(), names) || d.Pending() != pending || want != api.ErrDown && view(d) != before {
		t.Errorf("%s: changed what is told", line)
	}
}

// afterCrash is what each crash of a copy leaves, by its list.
func afterCrash(t *testing.T, d *Disk, want map[string]string) {
	t.Helper()
	for keep, told := range want {
		c := d.Copy()
		if e := c.Crash(keeping(keep)); e != api.OK {
			t.Errorf("Crash(%s): %d", keep, e)
		}
		if got := look(t, c); got != told || c.Pending() != 0 {
			t.Errorf("Crash(%s): %q, %d unsynced, want %q", keep, got, c.Pending(), told)
		}
	}
}

func TestExamples(t *testing.T) {
	d := script(t, "put a 0 A")
	if d.Pending() != 2 {
		t.Errorf("Pending %d", d.Pending())
	}
	afterCrash(t, d, map[string]string{"-": "", "1": "a=", "01": "", "11": "a=A"})

	d = script(t, "put a 0 A; sync a; put a 0 B; put a 1 B")
	afterCrash(t, d, map[string]string{"01": "a=AB", "-": "a=A", "1": "a=B", "11": "a=BB"})

	d = script(t, "put a 0 A; sync a; put t 0 B; sync t; rename t a")
	afterCrash(t, d, map[string]string{"-": "a=A t=B", "1": "a=B"})

	d = script(t, "put a 0 A")
	answer(t, d, "put a 2 A", api.ErrArg)
	answer(t, d, "put  0 A", api.ErrArg)
	if e := d.Put("a", 0, full('A')[:63]); e != api.ErrArg {
		t.Errorf("63 bytes: %d", e)
	}
	answer(t, d, "sync x", api.ErrFile)
	answer(t, d, "sync ", api.ErrFile)
}

// P7.1.
func TestNewAndTold(t *testing.T) {
	d := New()
	if len(d.Names()) != 0 || d.Pending() != 0 {
		t.Error("a new disk is not empty")
	}
	if b, e := d.Read("a"); b != nil || e != api.ErrFile {
		t.Error(b, e)
	}
	// Rising by bytes, whatever their encoding: a name that begins another one comes first.
	names := []string{"\x00", " ", "10", "2", "A", "a", "a\x00", "aa", "ab", "b", "\x7f", "\x80", "\xc3\xa4", "\xff", strings.Repeat("z", 64)}
	for i := range names {
		name := names[(i*7+3)%len(names)]
		if e := d.Put(name, 0, full('x')); e != api.OK {
			t.Errorf("Put(%q): %d", name, e)
		}
	}
	want := slices.Clone(names)
	slices.Sort(want)
	if got := d.Names(); !slices.Equal(got, want) {
		t.Errorf("%q", got)
	}
	if d.Pending() != 2*len(names) {
		t.Errorf("Pending %d", d.Pending())
	}
}

func TestReadTellsAllBytes(t *testing.T) {
	d := New()
	next := row(5)
	var want []byte
	for i := range 50 {
		data := make([]byte, 64)
		for j := range data {
			data[j] = byte(next(256))
		}
		want = append(want, data...)
		if e := d.Put("f", i, data); e != api.OK {
			t.Fatal(e)
		}
	}
	if b, e := d.Read("f"); e != api.OK || !bytes.Equal(b, want) {
		t.Error(len(b), e)
	}
	d.Sync("f")
	d.Crash(nil)
	if b, e := d.Read("f"); e != api.OK || !bytes.Equal(b, want) {
		t.Error(len(b), e)
	}
	d.Cut("f", 0)
	if b, e := d.Read("f"); e != api.OK || len(b) != 0 {
		t.Error(len(b), e)
	}
}

// Names, Pending and Copy tell of a disk without power, too; Read finds out first whether the file is there.
func TestToldWithoutPower(t *testing.T) {
	d := script(t, "put a 0 A; put b 0 B; sync b; put b 1 C; arm 0")
	answer(t, d, "sync a", api.ErrDown)
	if got := d.Names(); !slices.Equal(got, []string{"a", "b"}) || d.Pending() != 2 {
		t.Error(got, d.Pending())
	}
	if b, e := d.Read("a"); b != nil || e != api.ErrDown {
		t.Error(b, e)
	}
	if b, e := d.Read("x"); b != nil || e != api.ErrFile {
		t.Error(b, e)
	}
	c := d.Copy()
	if _, e := c.Read("b"); e != api.ErrDown {
		t.Error(e)
	}
	answer(t, c, "names", api.ErrDown)
	afterCrash(t, d, map[string]string{"11": "a=A b=BC", "01": "a= b=BC", "-": "a= b=B"})
}

// P7.2: each call's errors in the order of the table, with two at once.
func TestErrors(t *testing.T) {
	long := strings.Repeat("n", 65)
	edge := strings.Repeat("n", 64)
	for _, power := range []bool{true, false} {
		// How far an operation comes that is refused by nothing of its own.
		through := api.OK
		if !power {
			through = api.ErrDown
		}
		for _, c := range []struct {
			line string
			want api.Errno
		}{
			{"put a 0 x", through}, {"put a 1 x", through}, {"put a 2 x", through},
			{"put a 3 x", api.ErrArg}, {"put a -1 x", api.ErrArg}, {"put a 4095 x", api.ErrArg}, {"put a 4096 x", api.ErrArg}, {"put a 4097 x", api.ErrArg},
			{"put n 0 x", through}, {"put n 1 x", api.ErrArg}, {"put n -1 x", api.ErrArg}, {"put n 4096 x", api.ErrArg},
			{"put  0 x", api.ErrArg}, {"put " + edge + " 0 x", through}, {"put " + long + " 0 x", api.ErrArg},
			{"cut a 0", through}, {"cut a 1", through}, {"cut a 2", through}, {"cut a 3", api.ErrArg}, {"cut a -1", api.ErrArg},
			{"cut x 0", api.ErrFile}, {"cut x -1", api.ErrFile}, {"cut x 9", api.ErrFile}, {"cut  0", api.ErrFile}, {"cut " + long + " 0", api.ErrFile},
			{"rename a n", through}, {"rename a b", through}, {"rename a a", through}, {"rename a " + edge, through},
			{"rename a ", api.ErrArg}, {"rename a " + long, api.ErrArg}, {"rename x ", api.ErrArg}, {"rename  ", api.ErrArg}, {"rename x " + long, api.ErrArg}, {"rename " + long + " " + long, api.ErrArg},
			{"rename x n", api.ErrFile}, {"rename x a", api.ErrFile}, {"rename x x", api.ErrFile}, {"rename  a", api.ErrFile}, {"rename " + long + " a", api.ErrFile},
			{"remove a", through}, {"remove x", api.ErrFile}, {"remove ", api.ErrFile}, {"remove " + long, api.ErrFile},
			{"sync a", through}, {"sync x", api.ErrFile}, {"sync ", api.ErrFile}, {"sync " + long, api.ErrFile},
			{"names", through},
		} {
			d := script(t, "put a 0 A; put a 1 B; put b 0 C; sync b")
			if !power {
				more(t, d, "arm 0")
				run(t, d, "names")
			}
			answer(t, d, c.line, c.want)
		}
	}
}

func TestPutData(t *testing.T) {
	for _, n := range []int{0, 1, 63, 65, 128} {
		d := script(t, "put a 0 A")
		if e := d.Put("a", 0, make([]byte, n)); e != api.ErrArg || look(t, d) != "a=A" || d.Pending() != 2 {
			t.Errorf("%d bytes: %d", n, e)
		}
	}
	if e := New().Put("a", 0, nil); e != api.ErrArg {
		t.Error(e)
	}
}

func TestNumbersFarOff(t *testing.T) {
	for _, n := range []int{math.MinInt, math.MinInt32, -64, 1 << 20, math.MaxInt32, math.MaxInt, math.MaxInt/64 + 1} {
		d := script(t, "put a 0 A")
		if e := d.Put("a", n, full('B')); e != api.ErrArg {
			t.Error(n, e)
		}
		if e := d.Cut("a", n); e != api.ErrArg {
			t.Error(n, e)
		}
	}
}

func TestMostSectors(t *testing.T) {
	d := New()
	for i := range api.MaxSectors {
		if e := d.Put("a", i, full(byte(i))); e != api.OK {
			t.Fatal(i, e)
		}
	}
	answer(t, d, "put a 4096 x", api.ErrFull)
	answer(t, d, "put a 4097 x", api.ErrArg)
	answer(t, d, "put b 4096 x", api.ErrArg)
	answer(t, d, "put a 4095 x", api.OK)
	if e := d.Put("a", 4096, full('x')[1:]); e != api.ErrArg {
		t.Error(e)
	}
	answer(t, d, "arm 0", api.OK)
	// What is refused is no operation: the power is still there.
	answer(t, d, "put a 4096 x", api.ErrFull)
	answer(t, d, "put a 0 x", api.ErrDown)
	answer(t, d, "put a 4096 x", api.ErrFull)
	keep := make([]bool, d.Pending())
	keep[0], keep[4096] = true, true
	if e := d.Crash(keep); e != api.OK {
		t.Error(e)
	}
	b, e := d.Read("a")
	if want := append(make([]byte, 4095*64), full(255)...); e != api.OK || !bytes.Equal(b, want) {
		t.Error(len(b), e)
	}
	answer(t, d, "put a 4096 x", api.ErrFull)
	answer(t, d, "cut a 4096", api.OK)
	answer(t, d, "put a 4096 x", api.ErrFull)
	answer(t, d, "cut a 4095", api.OK)
	answer(t, d, "put a 4096 x", api.ErrArg)
	answer(t, d, "put a 4095 x", api.OK)
}

func TestMostFiles(t *testing.T) {
	d := New()
	for i := range api.MaxFiles {
		answer(t, d, "put "+strconv.Itoa(i)+" 0 x", api.OK)
	}
	answer(t, d, "put more 0 x", api.ErrFull)
	answer(t, d, "put more 1 x", api.ErrArg)
	answer(t, d, "put  0 x", api.ErrArg)
	answer(t, d, "put 7 1 y", api.OK)
	answer(t, d, "fail 0 4", api.OK)
	answer(t, d, "put more 0 x", api.ErrFull)
	answer(t, d, "put 7 0 z", api.ErrIO)
	answer(t, d, "rename 7 more", api.OK)
	answer(t, d, "put 7 0 x", api.ErrFull)
	answer(t, d, "rename more 8", api.OK)
	answer(t, d, "put 7 0 x", api.OK)
	answer(t, d, "put more 0 x", api.ErrFull)
	answer(t, d, "remove 9", api.OK)
	answer(t, d, "put more 0 x", api.OK)
	answer(t, d, "put 9 0 x", api.ErrFull)
	if len(d.Names()) != 256 {
		t.Error(len(d.Names()))
	}
}

// A crash may keep a making and lose the removal that gave it room.
func TestMoreFilesBehindACrash(t *testing.T) {
	d := New()
	for i := range api.MaxFiles {
		answer(t, d, "put "+strconv.Itoa(i)+" 0 x", api.OK)
	}
	more(t, d, "names; remove 0; put a 0 a; remove 1; put b 0 b; remove a")
	keep := make([]bool, d.Pending())
	// Ahead stand the 256 sectors.
	keep[257], keep[260] = true, true
	if e := d.Crash(keep); e != api.OK {
		t.Error(e)
	}
	if got := d.Names(); len(got) != 258 || !slices.Contains(got, "a") || !slices.Contains(got, "b") || !slices.Contains(got, "0") {
		t.Error(len(got))
	}
	answer(t, d, "put c 0 c", api.ErrFull)
	answer(t, d, "put a 0 c", api.OK)
	more(t, d, "remove a; remove b")
	answer(t, d, "put c 0 c", api.ErrFull)
	more(t, d, "remove 5")
	answer(t, d, "put c 0 c", api.OK)
}

// P7.2: how many steps each call makes, and what stands then.
func TestSteps(t *testing.T) {
	for _, c := range []struct {
		lines   string
		pending int
		stands  string
	}{
		{"put a 0 A", 2, "a=A"},
		{"put a 0 A; put a 0 A", 3, "a=A"},
		{"put a 0 A; put a 1 B; put a 0 C", 4, "a=CB"},
		{"put a 0 A; cut a 1", 3, "a=A"},
		{"put a 0 A; cut a 0", 3, "a="},
		{"put a 0 A; put a 1 B; cut a 1; put a 1 C; cut a 0; cut a 0", 7, "a="},
		{"put a 0 A; put a 1 B; cut a 0; put a 0 C", 5, "a=C"},
		{"put a 0 A; rename a b", 3, "b=A"},
		{"put a 0 A; rename a a", 2, "a=A"},
		{"put a 0 A; put b 0 B; rename a b", 5, "b=A"},
		{"put a 0 A; put b 0 B; rename a c; rename b a; rename c b", 7, "a=B b=A"},
		{"put a 0 A; remove a", 3, ""},
		{"put a 0 A; remove a; put a 0 B", 5, "a=B"},
		{"put a 0 A; put a 1 A; remove a; put a 0 B", 6, "a=B"},
		{"put a 0 A; rename a b; put a 0 C; put b 1 D", 6, "a=C b=AD"},
		{"put a 0 A; sync a", 0, "a=A"},
		{"put a 0 A; names", 1, "a=A"},
		{"put a 0 A; put b 0 B; sync a", 2, "a=A b=B"},
		{"put a 0 A; put b 0 B; sync b", 1, "a=A b=B"},
		{"put a 0 A; cut a 0; put a 0 B; rename a b; sync b", 1, "b=B"},
		{"put a 0 A; cut a 0; put a 0 B; rename a b; names", 3, "b=B"},
		{"put a 0 A; names; sync a", 0, "a=A"},
		{"put a 0 A; sync a; remove a; sync b", 1, ""},
	} {
		d := New()
		for _, line := range strings.Split(c.lines, "; ") {
			run(t, d, line)
		}
		if got := look(t, d); got != c.stands || d.Pending() != c.pending {
			t.Errorf("%s: %q, %d unsynced, want %q, %d", c.lines, got, d.Pending(), c.stands, c.pending)
		}
	}
}

// P7.2 and P7.4: what a crash makes of each step, and of those behind a sync.
func TestCrashes(t *testing.T) {
	for _, c := range []struct {
		lines string
		want  map[string]string
	}{
		// Sectors ahead of one that was kept are noughts; a cut that has nothing to cut does nothing.
		{"put a 0 A; put a 1 B; put a 2 C", map[string]string{"1001": "a=00C", "1010": "a=0B", "1101": "a=A0C", "0111": "", "1": "a="}},
		{"put a 0 A; sync a; put a 1 B; cut a 1; put a 1 C; put a 2 D", map[string]string{"-": "a=A", "1": "a=AB", "11": "a=A", "01": "a=A", "1101": "a=A0D", "1001": "a=ABD", "001": "a=AC", "0001": "a=A0D", "1111": "a=ACD"}},
		{"put a 0 A; put a 1 B; sync a; cut a 0; put a 0 C", map[string]string{"-": "a=AB", "1": "a=", "01": "a=CB", "11": "a=C"}},
		{"put a 0 A; cut a 0; sync a; put a 0 B", map[string]string{"-": "a=", "1": "a=B"}},
		{"put a 0 A; put a 1 B; put a 2 C; sync a; cut a 1; put a 1 D; put a 2 E", map[string]string{"-": "a=ABC", "101": "a=A0E", "001": "a=ABE", "11": "a=AD", "01": "a=ADC"}},
		// Names.
		{"put a 0 A; sync a; rename a b; rename b c", map[string]string{"-": "a=A", "1": "b=A", "01": "a=A", "11": "c=A"}},
		{"put a 0 A; sync a; rename a b; rename b a", map[string]string{"-": "a=A", "1": "b=A", "01": "a=A", "11": "a=A"}},
		{"put a 0 A; sync a; put b 0 B; sync b; rename a c; rename b a; rename c b", map[string]string{"-": "a=A b=B", "1": "b=B c=A", "01": "a=B", "001": "a=A b=B", "11": "a=B c=A", "101": "b=A", "011": "a=B", "111": "a=B b=A"}},
		{"put a 0 A; rename a b", map[string]string{"-": "", "1": "a=", "11": "a=A", "111": "b=A", "101": "b=", "001": "", "011": "", "01": ""}},
		{"put a 0 A; sync a; remove a; put a 0 B", map[string]string{"-": "a=A", "1": "", "01": "a=", "001": "a=A", "011": "a=B", "101": "", "11": "a=", "111": "a=B"}},
		{"put a 0 A; sync a; remove a; put a 0 B; remove a", map[string]string{"-": "a=A", "0001": "a=A", "0101": "", "0111": "", "1": "", "011": "a=B"}},
		{"put a 0 A; sync a; rename a b; put a 0 B; remove b", map[string]string{"-": "a=A", "1": "b=A", "0001": "a=A", "01": "a=", "011": "a=B", "1001": "", "111": "a=B b=A", "1111": "a=B"}},
		// A file whose name another one took, with steps of its own unsynced.
		{"put a 0 A; sync a; put t 0 T; sync t; put a 1 B; rename t a; put a 1 U", map[string]string{"-": "a=A t=T", "1": "a=AB t=T", "01": "a=T", "11": "a=T", "001": "a=A t=TU", "101": "a=AB t=TU", "111": "a=TU"}},
		// A name that was given anew: the steps of the file that lost it stay apart.
		{"put a 0 A; remove a; put a 0 B; put a 1 C", map[string]string{"-": "", "1": "a=", "11": "a=A", "111": "", "0001": "a=", "00011": "a=B", "1101": "a=", "11011": "a=B", "110111": "a=BC", "111111": "a=BC", "110001": "a=A", "010111": "a=BC"}},
		{"put a 0 A; remove a; put a 0 B; sync a", map[string]string{"-": "a=B", "1": "a=B"}},
		// Sync of a file whose making is unsynced, with other names ahead of it and behind it.
		{"put a 0 A; rename a b; put c 0 C; put d 0 D; rename b e; sync c", map[string]string{"-": "b= c=C", "1": "b=A c=C", "01": "b= c=C d=", "0001": "c=C e=", "1111": "c=C d=D e=A", "001": "b= c=C"}},
		{"put a 0 A; names; put b 0 B; remove a; put c 0 C; sync b", map[string]string{"-": "a= b=B", "1": "a=A b=B", "01": "b=B", "001": "a= b=B c=", "0001": "a= b=B"}},
		{"put a 0 A; sync a; remove a; put b 0 B; sync b", map[string]string{"-": "b=B"}},
		{"put a 0 A; sync a; put b 0 B; remove a; sync b", map[string]string{"-": "a=A b=B", "1": "b=B"}},
		{"put a 0 A; sync a; rename a c; put b 0 B; sync c; sync b", map[string]string{"-": "b=B c=A"}},
		{"put a 0 A; sync a; rename a c; put c 1 B; sync c", map[string]string{"-": "a=AB", "1": "c=AB"}},
		{"put t 0 T; rename t a; sync a", map[string]string{"-": "t=T", "1": "a=T"}},
		{"put a 0 A; put t 0 T; rename t a; sync a", map[string]string{"-": "a= t=T", "1": "a=A t=T", "01": "a=T", "11": "a=T"}},
		// SyncNames: names alone.
		{"put a 0 A; names", map[string]string{"-": "a=", "1": "a=A"}},
		{"put a 0 A; remove a; names", map[string]string{"-": "", "1": ""}},
		{"put a 0 A; sync a; put a 1 B; rename a b; names", map[string]string{"-": "b=A", "1": "b=AB"}},
		{"put a 0 A; sync a; put a 1 B; remove a; put a 0 C; names", map[string]string{"-": "a=", "1": "a=", "01": "a=C", "11": "a=C"}},
		{"put a 0 A; put b 0 B; rename a b; names", map[string]string{"-": "b=", "1": "b=A", "01": "b=", "11": "b=A"}},
		// A crash ahead.
		{"put a 0 A; put a 1 B; crash 101; put a 0 C", map[string]string{"-": "a=0B", "1": "a=CB"}},
		{"put a 0 A; sync a; remove a; crash -; put a 1 B; rename a b", map[string]string{"-": "a=A", "1": "a=AB", "01": "b=A"}},
		{"put a 0 A; crash 01; put a 0 B", map[string]string{"-": "", "1": "a=", "11": "a=B"}},
	} {
		d := script(t, c.lines)
		t.Run(c.lines, func(t *testing.T) { afterCrash(t, d, c.want) })
		all := strings.Repeat("1", d.Pending())
		afterCrash(t, d, map[string]string{all: look(t, d), all + "01": look(t, d)})
	}
}

// P7.3: how each operation of a row is answered behind what was armed.
func TestArmed(t *testing.T) {
	// Each is an operation, done on a disk with a (two sectors) and b.
	ops := []string{"put a 0 x", "put n 0 x", "cut a 1", "rename a n", "rename a a", "remove a", "sync a", "names"}
	for _, op := range ops {
		for _, c := range []struct {
			armed string
			want  []api.Errno
		}{
			{"", []api.Errno{0, 0, 0}},
			{"arm 0", []api.Errno{6, 6, 6}},
			{"arm 1", []api.Errno{0, 6, 6}},
			{"arm 2", []api.Errno{0, 0, 6, 6}},
			{"fail 0 4", []api.Errno{4, 0, 0}},
			{"fail 0 5", []api.Errno{5, 0, 0}},
			{"fail 2 4", []api.Errno{0, 0, 4, 0, 0}},
			{"arm 2; fail 0 4", []api.Errno{4, 0, 6, 6}},
			{"fail 1 5; arm 2", []api.Errno{0, 5, 6, 6}},
			{"arm 1; fail 1 4", []api.Errno{0, 6, 6}},
			{"fail 0 4; arm 0", []api.Errno{6, 6, 6}},
			{"arm 0; fail 1 4", []api.Errno{6, 6, 6}},
			{"arm 0; arm 2", []api.Errno{0, 0, 6}},
			{"arm 2; arm 0", []api.Errno{6, 6, 6}},
			{"fail 0 4; fail 1 5", []api.Errno{0, 5, 0}},
			{"fail 1 5; fail 0 4", []api.Errno{4, 0, 0}},
			{"fail 0 4; arm 9; fail 2 5", []api.Errno{0, 0, 5, 0}},
		} {
			d := script(t, "put a 0 A; put a 1 B; put b 0 C")
			if c.armed != "" {
				more(t, d, c.armed)
			}
			for i, want := range c.want {
				before := d.Copy()
				if got := run(t, d, op); got != want {
					t.Errorf("%s, %s, operation %d: %d, want %d", c.armed, op, i, got, want)
				}
				if want != api.OK && (!slices.Equal(d.Names(), before.Names()) || d.Pending() != before.Pending()) {
					t.Errorf("%s, %s, operation %d: did something", c.armed, op, i)
				}
				if want == api.OK {
					// The next one finds the same disk, but for what is armed: a rename to the same name does nothing, and counts.
					d = before
					if e := d.Rename("b", "b"); e != api.OK {
						t.Errorf("%s, %s: the copy's count differs: %d", c.armed, op, e)
					}
				}
			}
		}
	}
}

// What is refused is no operation, and neither are the other calls.
func TestWhatCountsNothing(t *testing.T) {
	d := script(t, "put a 0 A; sync a; arm 1; fail 0 4")
	long := strings.Repeat("n", 65)
	for range 3 {
		for _, line := range []string{"put a 2 x", "put  0 x", "put " + long + " 0 x", "put n 1 x", "cut x 0", "cut a 2", "cut a -1", "rename a ", "rename x y", "rename x ", "remove x", "sync x"} {
			if e := run(t, d, line); e != api.ErrArg && e != api.ErrFile {
				t.Errorf("%s: %d", line, e)
			}
		}
		d.Read("a")
		d.Read("x")
		d.Names()
		d.Pending()
		d.Copy()
		answer(t, d, "arm -1", api.ErrArg)
		answer(t, d, "fail -1 4", api.ErrArg)
		answer(t, d, "fail 0 6", api.ErrArg)
	}
	answer(t, d, "rename a a", api.ErrIO)
	answer(t, d, "rename a a", api.ErrDown)
	if d.Pending() != 0 {
		t.Error(d.Pending())
	}
}

func TestArmArguments(t *testing.T) {
	for _, n := range []int{-1, -2, -64, math.MinInt32, math.MinInt} {
		d := New()
		for _, e := range []api.Errno{d.Arm(n), d.Fail(n, api.ErrIO), d.Fail(n, api.OK)} {
			if e != api.ErrArg {
				t.Error(n, e)
			}
		}
		answer(t, d, "names", api.OK)
	}
	for e := range 400 {
		d := New()
		got := d.Fail(0, api.Errno(e))
		if right := e == 4 || e == 5; right != (got == api.OK) || !right && got != api.ErrArg {
			t.Error(e, got)
		}
		if got == api.OK {
			answer(t, d, "names", api.Errno(e))
		}
		answer(t, d, "names", api.OK)
	}
	// A refused one leaves what is armed.
	d := script(t, "arm 1; fail 0 5")
	answer(t, d, "arm -1", api.ErrArg)
	answer(t, d, "fail 0 3", api.ErrArg)
	answer(t, d, "fail -1 4", api.ErrArg)
	answer(t, d, "names", api.ErrFull)
	answer(t, d, "names", api.ErrDown)
	// As many as there are numbers.
	d = New()
	if e := d.Arm(math.MaxInt); e != api.OK {
		t.Error(e)
	}
	if e := d.Fail(math.MaxInt, api.ErrIO); e != api.OK {
		t.Error(e)
	}
	for range 100 {
		answer(t, d, "names", api.OK)
	}
}

// Without power nothing is counted, arming does not bring it back, and a crash ends all of it.
func TestArmedWithoutPower(t *testing.T) {
	d := script(t, "put a 0 A; sync a; put a 1 B; arm 0")
	answer(t, d, "names", api.ErrDown)
	answer(t, d, "arm 5", api.OK)
	answer(t, d, "fail 2 4", api.OK)
	for range 9 {
		answer(t, d, "put a 0 x", api.ErrDown)
		answer(t, d, "sync a", api.ErrDown)
	}
	if d.Pending() != 1 {
		t.Error(d.Pending())
	}
	answer(t, d, "arm -1", api.ErrArg)
	answer(t, d, "fail 0 9", api.ErrArg)
	more(t, d, "crash 1")
	if got := look(t, d); got != "a=AB" {
		t.Error(got)
	}
	for range 9 {
		answer(t, d, "names", api.OK)
	}
}

func TestCrashEndsWhatIsArmed(t *testing.T) {
	for _, armed := range []string{"arm 0", "arm 3", "fail 0 4", "fail 2 5", "arm 2; fail 1 4"} {
		d := script(t, "put a 0 A")
		more(t, d, armed)
		more(t, d, "crash 11")
		for range 9 {
			answer(t, d, "put a 0 B", api.OK)
		}
	}
	// Also Fail, of which an operation that the power left has counted one.
	d := script(t, "fail 1 4; arm 0")
	answer(t, d, "names", api.ErrDown)
	more(t, d, "crash -")
	answer(t, d, "names", api.OK)
	answer(t, d, "names", api.OK)
}

// P7.1: a copy has all, what is armed too, and each goes on by itself.
func TestCopy(t *testing.T) {
	d := script(t, "put a 0 A; sync a; put a 1 B; put b 0 C; rename a d; fail 1 5; arm 3")
	c := d.Copy()
	was := view(d)
	if view(c) != was {
		t.Errorf("%s, want %s", view(c), was)
	}
	for _, x := range []*Disk{d, c} {
		crashed := x.Copy()
		more(t, crashed, "crash 1001")
		if got := look(t, crashed); got != "d=AB" {
			t.Error(got)
		}
		if view(x) != was {
			t.Errorf("%s, want %s", view(x), was)
		}
		answer(t, x, "put d 0 x", api.OK)
		answer(t, x, "put d 1 y", api.ErrFull)
		answer(t, x, "put b 0 z", api.OK)
		if got := look(t, x); got != "b=z d=xB" {
			t.Error(got)
		}
		answer(t, x, "put d 1 y", api.ErrDown)
	}
	// Files that are made behind the copy are no more the same.
	d = script(t, "put a 0 A")
	c = d.Copy()
	more(t, d, "put b 0 B; sync b; remove a")
	more(t, c, "put c 0 C; rename c a; sync a")
	if look(t, d) != "b=B" || look(t, c) != "a=C" || d.Pending() != 2 || c.Pending() != 2 {
		t.Error(view(d), view(c))
	}
	afterCrash(t, d, map[string]string{"-": "a= b=B", "1": "a=A b=B", "11": "b=B"})
	afterCrash(t, c, map[string]string{"-": "a= c=C", "1": "a=A c=C", "11": "a=C"})
}

// Each call on the one is not to be seen on the other, whichever of the two is the copy.
func TestApart(t *testing.T) {
	for _, lines := range []string{"put a 0 x", "put a 2 x", "put n 0 x", "cut a 0; put a 0 x", "cut a 1; put a 1 x; sync a", "rename a b", "remove a", "sync a", "names", "crash -", "crash 1111", "crash 00001", "arm 0", "fail 0 4", "remove a; put a 0 x; sync a; crash -"} {
		for _, swap := range []bool{false, true} {
			d := script(t, "put a 0 A; put a 1 B; sync a; put a 1 C; put b 0 D; cut a 1; put a 1 E")
			c := d.Copy()
			if swap {
				d, c = c, d
			}
			before := c.Copy()
			more(t, d, lines)
			if view(c) != view(before) {
				t.Errorf("%s: %s, want %s", lines, view(c), view(before))
			}
			for _, keep := range crashes(c.Pending()) {
				x, y := c.Copy(), before.Copy()
				x.Crash(keep)
				y.Crash(keep)
				if view(x) != view(y) {
					t.Errorf("%s, Crash(%v): %s, want %s", lines, keep, view(x), view(y))
				}
			}
			answer(t, c, "put a 0 y", api.OK)
		}
	}
}

// Steps that come behind those of the copy are each one's own, however many there are.
func TestCopiesGoOn(t *testing.T) {
	for n := range 20 {
		d := New()
		for i := range n {
			more(t, d, "put a "+strconv.Itoa(i)+" A")
		}
		c := d.Copy()
		end := "put a " + strconv.Itoa(n)
		more(t, d, end+" B; put b 0 B; rename b d; put d 1 C")
		more(t, c, end+" D; put b 0 D; rename b e; put e 1 E")
		all := strings.Repeat("1", d.Pending())
		a := "a=" + strings.Repeat("A", n)
		afterCrash(t, d, map[string]string{all: a + "B d=BC"})
		afterCrash(t, c, map[string]string{all: a + "D e=DE"})
	}
}

// All rows of a few calls on few names, behind each crash, against the model.
func TestAllShortRows(t *testing.T) {
	lines := []string{"put a 0 1", "put a 1 2", "put b 0 3", "cut a 0", "rename a b", "rename b a", "remove a", "remove b", "sync a", "sync b", "names"}
	var from func(d *Disk, m *model, done string, left int)
	from = func(d *Disk, m *model, done string, left int) {
		if left == 0 {
			crashSame(t, done, d, m)
			return
		}
		for _, line := range lines {
			c, w := d.Copy(), m.Copy()
			e := run(t, c, line)
			if want := run(t, w, line); e != want {
				t.Fatalf("%s, %s: %d, want %d", done, line, e, want)
			}
			same(t, done+", "+line, c, w)
			if e == api.OK {
				from(c, w, done+", "+line, left-1)
			}
		}
	}
	for left := range 5 {
		from(New(), &model{}, "", left)
	}
}

// anyLine is a call, mostly right, on few names and sectors.
func anyLine(next func(int) int) string {
	names := []string{"a", "b", "c", "d", "a", "b", "", strings.Repeat("l", 64), strings.Repeat("l", 65)}
	name := func() string { return names[next(len(names))] }
	letter := string(rune('A' + next(26)))
	switch next(24) {
	case 0, 1, 2, 3, 4, 5, 6, 7, 8:
		return fmt.Sprintf("put %s %d %s", name(), next(5)-next(2), letter)
	case 9, 10:
		return fmt.Sprintf("cut %s %d", name(), next(4)-next(2))
	case 11, 12, 13, 14:
		return "rename " + name() + " " + name()
	case 15, 16:
		return "remove " + name()
	case 17, 18, 19:
		return "sync " + name()
	case 20:
		return "names"
	case 21:
		return fmt.Sprintf("arm %d", next(12)-next(2))
	case 22:
		return fmt.Sprintf("fail %d %d", next(6)-next(2), 3+next(4))
	}
	keep := "crash -"
	for range next(12) {
		keep += string(rune('0' + next(2)))
	}
	return keep
}

func TestAnyRows(t *testing.T) {
	for seed := range uint64(400) {
		next := row(seed)
		d, m := New(), &model{}
		done := ""
		for i := range 60 {
			line := anyLine(next)
			done += line + "; "
			if e, want := run(t, d, line), run(t, m, line); e != want {
				t.Fatalf("seed %d: %s: %d, want %d", seed, done, e, want)
			}
			same(t, done, d, m)
			for _, name := range []string{"", "a", "x", strings.Repeat("l", 65)} {
				b, e := d.Read(name)
				if w, want := m.Read(name); e != want || !bytes.Equal(b, w) || e != api.OK && b != nil {
					t.Fatalf("seed %d: %s: Read(%q): %x, %d", seed, done, name, b, e)
				}
			}
			lean(t, done, d)
			if i%10 == 9 {
				crashSame(t, done, d, m)
			}
			if next(20) == 0 {
				d, m = d.Copy(), m.Copy()
			}
		}
	}
}

// lean finds sectors that are kept though their file is gone for good.
func lean(t *testing.T, what string, d *Disk) {
	t.Helper()
	for _, s := range []shape{d.durable, d.stands} {
		for _, file := range s.names {
			if _, there := s.rows[file]; !there {
				t.Fatalf("%s: a file without a row", what)
			}
		}
		if len(s.rows) != len(s.names) {
			t.Fatalf("%s: %d rows of %d files", what, len(s.rows), len(s.names))
		}
	}
}

// P7.5: a file that was synced, and neither put to nor cut since, is behind any crash what it was, under its durable name.
func TestSyncedStays(t *testing.T) {
	for seed := range uint64(300) {
		next := row(seed + 1000)
		d := New()
		for range next(12) {
			run(t, d, quiet(next, "a"))
		}
		if d.Put("a", 0, full('!')) != api.OK || d.Sync("a") != api.OK || d.SyncNames() != api.OK {
			t.Fatal("not synced")
		}
		want, _ := d.Read("a")
		for range next(12) {
			run(t, d, quiet(next, "b", "c"))
		}
		for _, keep := range crashes(d.Pending()) {
			c := d.Copy()
			c.Crash(keep)
			if b, e := c.Read("a"); e != api.OK || !bytes.Equal(b, want) {
				t.Fatalf("seed %d, Crash(%v): %q, %d, want %q", seed, keep, text(b), e, text(want))
			}
		}
	}
}

// quiet is a line that touches only the names it is given.
func quiet(next func(int) int, names ...string) string {
	name := func() string { return names[next(len(names))] }
	return []string{"put " + name() + " 0 A", "put " + name() + " 1 B", "cut " + name() + " 0", "rename " + name() + " " + name(), "remove " + name(), "sync " + name(), "names"}[next(7)]
}

// P7.5: Rename while the making is synced, and the name is not: behind a crash without names the old one has all that was synced.
func TestSyncedUnderItsDurableName(t *testing.T) {
	d := script(t, "put a 0 A; put a 1 B; sync a; rename a b; put b 2 C; sync b; rename b c; put a 0 X; put b 0 Y")
	for _, keep := range crashes(d.Pending()) {
		c := d.Copy()
		c.Crash(keep)
		told := " " + look(t, c)
		if strings.Count(told, "=ABC") != 1 && !kept(keep, 2) && !kept(keep, 4) {
			t.Errorf("Crash(%v): %s", keep, told)
		}
		if !kept(keep, 0) && !kept(keep, 2) && !strings.Contains(told, " a=ABC") {
			t.Errorf("Crash(%v): %s", keep, told)
		}
	}
}

func kept(keep []bool, place int) bool {
	return place < len(keep) && keep[place]
}

// P7.5: put whole under another name, synced, renamed: the one or the other, whole, wherever the power goes.
func TestSwappedWhole(t *testing.T) {
	lines := strings.Split("put t 0 C; put t 1 D; put t 2 E; sync t; rename t a; names", "; ")
	for ops := range len(lines) + 1 {
		d := script(t, "put a 0 A; put a 1 B; sync a")
		more(t, d, "arm "+strconv.Itoa(ops))
		for i, line := range lines {
			if e := run(t, d, line); (e == api.OK) != (i < ops) {
				t.Errorf("%d operations, %s: %d", ops, line, e)
			}
		}
		for _, keep := range crashes(d.Pending()) {
			c := d.Copy()
			c.Crash(keep)
			b, e := c.Read("a")
			told := text(b)
			if e != api.OK || told != "AB" && told != "CDE" || told == "CDE" && ops < 5 || told == "AB" && ops > 5 {
				t.Errorf("%d operations, Crash(%v): %q, %d", ops, keep, told, e)
			}
		}
	}
}

// P7.5: a crash that keeps all leaves the disk as it stood.
func TestKeepsAll(t *testing.T) {
	for seed := range uint64(200) {
		next := row(seed + 5000)
		d := New()
		for range 40 {
			run(t, d, quiet(next, "a", "b", "c", "d"))
		}
		before := look(t, d)
		keep := make([]bool, d.Pending())
		for i := range keep {
			keep[i] = true
		}
		d.Crash(keep)
		if got := look(t, d); got != before || d.Pending() != 0 {
			t.Fatalf("seed %d: %q, want %q", seed, got, before)
		}
		d.Crash(nil)
		if got := look(t, d); got != before {
			t.Fatalf("seed %d, once more: %q, want %q", seed, got, before)
		}
	}
}

// R3: what is handed in is neither changed nor kept.
func TestHandedIn(t *testing.T) {
	room := append(full('A'), full('R')...)
	data := room[:64]
	d := New()
	if e := d.Put("a", 0, data); e != api.OK {
		t.Fatal(e)
	}
	if !bytes.Equal(room, append(full('A'), full('R')...)) {
		t.Error("Put changed what it was handed")
	}
	for i := range room {
		room[i] = 'z'
	}
	if got := look(t, d); got != "a=A" {
		t.Error(got)
	}
	afterCrash(t, d, map[string]string{"11": "a=A"})
	d.Sync("a")
	for i := range room {
		room[i] = 'y'
	}
	d.Crash(nil)
	if got := look(t, d); got != "a=A" {
		t.Error(got)
	}
	more(t, d, "put a 0 B; put a 1 C")
	keep := []bool{true, false, true, true}
	if e := d.Crash(keep[:1]); e != api.OK || !slices.Equal(keep, []bool{true, false, true, true}) {
		t.Error(e, keep)
	}
	keep[0] = false
	if got := look(t, d); got != "a=B" {
		t.Error(got)
	}
}

// R3: what is handed out is new, its spare room too.
func TestHandedOut(t *testing.T) {
	d := script(t, "put a 0 A; put a 1 B; sync a; put b 0 C; put a 2 D")
	c := d.Copy()
	was := view(d)
	for range 2 {
		first, _ := d.Read("a")
		second, _ := d.Read("a")
		for _, b := range [][]byte{first, second} {
			b = b[:cap(b)]
			for i := range b {
				b[i] = 'z'
			}
			third, _ := d.Read("a")
			if text(third) != "ABD" {
				t.Error(text(third))
			}
		}
		alone, _ := d.Read("b")
		for i := range alone {
			alone[i] = 'z'
		}
		one, two := d.Names(), d.Names()
		one = one[:cap(one)]
		for i := range one {
			one[i] = "z"
		}
		if !slices.Equal(two, []string{"a", "b"}) {
			t.Error(two)
		}
		if view(d) != was || view(c) != was {
			t.Error(view(d), view(c))
		}
		d.Crash([]bool{true, true, true})
		c.Crash([]bool{true, true, true})
		was = strings.Replace(was, "[a b] 3", "[a b] 0", 1)
	}
}

// R5.
func TestNoDisk(t *testing.T) {
	moved := new(Disk)
	reflect.ValueOf(moved).Elem().Set(reflect.ValueOf(script(t, "put a 0 A")).Elem())
	for i, d := range []*Disk{nil, new(Disk), {}, moved} {
		for range 2 {
			for _, line := range []string{"put a 0 A", "put  9 A", "cut a 0", "cut a -1", "rename a b", "rename a ", "rename  ", "remove a", "sync a", "sync ", "names", "arm 0", "arm -1", "fail 0 4", "fail -1 0", "crash -", "crash 11"} {
				if e := run(t, d, line); e != api.ErrNil {
					t.Errorf("%d: %s: %d", i, line, e)
				}
			}
			if e := d.Put("a", 0, nil); e != api.ErrNil {
				t.Error(i, e)
			}
			if b, e := d.Read("a"); b != nil || e != api.ErrNil {
				t.Error(i, b, e)
			}
			if d.Names() != nil || d.Pending() != 0 || d.Copy() != nil {
				t.Error(i, d.Names(), d.Pending())
			}
		}
	}
}

// R6: none and an empty list are the same to Crash.
func TestEmptyLists(t *testing.T) {
	for _, keep := range [][]bool{nil, {}, make([]bool, 0, 9), {false}} {
		d := script(t, "put a 0 A; sync a; put a 0 B")
		if e := d.Crash(keep); e != api.OK || look(t, d) != "a=A" {
			t.Error(keep, e)
		}
	}
}

// R4: two disks with the same past tell the same.
func TestSamePast(t *testing.T) {
	var told []string
	for range 3 {
		next := row(77)
		d := New()
		for range 300 {
			line := anyLine(next)
			if !strings.HasPrefix(line, "arm") {
				told = append(told, fmt.Sprint(run(t, d, line), view(d)))
			}
		}
	}
	third := len(told) / 3
	if !slices.Equal(told[:third], told[third:2*third]) || !slices.Equal(told[:third], told[2*third:]) {
		t.Error("not the same")
	}
}
