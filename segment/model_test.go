package segment

import (
	"bytes"
	"encoding/binary"
	"fmt"
	"math/bits"
	"slices"
	"strconv"
	"strings"
	"testing"

	"conduit/api"
	"conduit/file"
)

// framesOf are the bodies of a file's frames, as the chapter's Words tell them.
func framesOf(held []byte) [][]byte {
	var stream []byte
	for sector := range slices.Chunk(held, 64) {
		filled := int(sector[0])
		if filled > 62 {
			filled = 0
		}
		stream = append(stream, sector[2:2+filled]...)
		if filled != 62 {
			break
		}
	}
	var bodies [][]byte
	for len(stream) >= 4 {
		size := int(binary.BigEndian.Uint32(stream))
		if size > 65536 || len(stream)-4 < size {
			break
		}
		bodies = append(bodies, stream[4:4+size])
		stream = stream[4+size:]
	}
	return bodies
}

// cleanOf is the clean file of these bodies, laid byte by byte.
func cleanOf(bodies [][]byte) []byte {
	var held []byte
	filled := 62
	for _, body := range bodies {
		for _, b := range append(binary.BigEndian.AppendUint32(nil, uint32(len(body))), body...) {
			if filled == 62 {
				held = append(held, make([]byte, 64)...)
				filled = 0
			}
			last := held[len(held)-64:]
			last[2+filled] = b
			filled++
			last[0] = byte(filled)
		}
	}
	return held
}

func sizeOf(bodies [][]byte) int {
	size := 0
	for _, body := range bodies {
		size += 4 + len(body)
	}
	return size
}

// op is an operation that a call is to make on the file s: "put 3", "cut 2", "sync"; what is put is that sector of a clean file.
type op string

func (o op) do(d *file.Disk, clean []byte) api.Errno {
	what, number, _ := strings.Cut(string(o), " ")
	at, _ := strconv.Atoi(number)
	switch what {
	case "put":
		return d.Put("s", at, clean[at*64:at*64+64])
	case "cut":
		return d.Cut("s", at)
	}
	return d.Sync("s")
}

func doAll(d *file.Disk, clean []byte, ops []op) api.Errno {
	for _, o := range ops {
		if e := o.do(d, clean); e != api.OK {
			return e
		}
	}
	return api.OK
}

// leaving are the operations that leave a file with these frames alone.
func leaving(clean []byte) []op {
	n := len(clean) / 64
	ops := []op{op(fmt.Sprint("cut ", n)), "sync"}
	if n > 0 && clean[n*64-64] != 62 {
		ops = slices.Insert(ops, 0, op(fmt.Sprint("put ", n-1)))
	}
	return ops
}

// adding are the operations that make of one clean file another one.
func adding(was, is []byte) []op {
	var ops []op
	for at := 0; at*64 < len(is); at++ {
		if at*64 >= len(was) || !bytes.Equal(was[at*64:at*64+64], is[at*64:at*64+64]) {
			ops = append(ops, op(fmt.Sprint("put ", at)))
		}
	}
	return ops
}

// model is a segment of the file s, as the chapter's promises tell it, on a disk of its own.
type model struct {
	disk   *file.Disk
	bodies [][]byte
	broken bool
}

// opened answers nil beside an error.
func opened(d *file.Disk) (*model, api.Errno) {
	held, e := d.Read("s")
	if e == api.ErrFile {
		return &model{disk: d}, api.OK
	}
	if e != api.OK {
		return nil, e
	}
	bodies := framesOf(held)
	if clean := cleanOf(bodies); !bytes.Equal(held, clean) {
		if e := doAll(d, clean, leaving(clean)); e != api.OK {
			return nil, e
		}
	}
	return &model{disk: d, bodies: bodies}, api.OK
}

func (m *model) append(body []byte) (int, api.Errno) {
	longer := append(slices.Clone(m.bodies), body)
	switch {
	case m.broken:
		return 0, api.ErrIO
	case len(body) > 65536:
		return 0, api.ErrLong
	case sizeOf(longer) > 253952:
		return 0, api.ErrFull
	}
	clean := cleanOf(longer)
	if e := doAll(m.disk, clean, adding(cleanOf(m.bodies), clean)); e != api.OK {
		m.broken = true
		return 0, e
	}
	m.bodies = longer
	return len(longer) - 1, api.OK
}

func (m *model) sync() api.Errno {
	if m.broken {
		return api.ErrIO
	}
	if !slices.Contains(m.disk.Names(), "s") {
		return api.OK
	}
	e := m.disk.Sync("s")
	m.broken = e != api.OK
	return e
}

func (m *model) truncate(n int) api.Errno {
	switch {
	case m.broken:
		return api.ErrIO
	case n < 0 || n > len(m.bodies):
		return api.ErrArg
	case n == len(m.bodies):
		return api.OK
	}
	clean := cleanOf(m.bodies[:n])
	if e := doAll(m.disk, clean, leaving(clean)); e != api.OK {
		m.broken = true
		return e
	}
	m.bodies = m.bodies[:n]
	return api.OK
}

// row tells numbers without a pattern, always the same ones.
func row(seed uint64) func(below int) int {
	return func(below int) int {
		seed = seed*6364136223846793005 + 1442695040888963407
		return int((bits.Reverse64(seed) ^ seed>>7) % uint64(below))
	}
}

// bodyOf is a body of that size, unlike those of the neighbouring numbers; some are noughts, or look like frames or sectors, so that bytes at a wrong place would be taken for such.
func bodyOf(number, size int) []byte {
	body := make([]byte, size)
	for i := range body {
		switch number % 4 {
		case 0, 1:
			body[i] = byte(7*i + 31*number + 1)
		case 2:
			body[i] = []byte{0, 0, 0, 1}[i%4]
		case 3:
			body[i] = []byte{62, 0}[i%2]
		}
	}
	if size > 0 {
		body[size-1] = byte(number)
	}
	return body
}

// keepings are lists for Crash: each mix of up to eight steps; of more, some.
func keepings(steps int) [][]bool {
	mixes := 1 << min(steps, 8)
	var lists [][]bool
	for mix := range mixes {
		list := make([]bool, steps)
		for i := range list {
			list[i] = mix>>(i%8)&1 == 1
		}
		lists = append(lists, list)
	}
	return lists
}

func bytesOn(t *testing.T, d *file.Disk) []byte {
	t.Helper()
	held, e := d.Read("s")
	if e != api.OK && e != api.ErrFile {
		t.Fatalf("Read: %d", e)
	}
	return held
}

// view is what a disk tells without changing.
func view(d *file.Disk) string {
	told := fmt.Sprint(d.Names(), d.Pending())
	for _, name := range d.Names() {
		b, e := d.Read(name)
		told += fmt.Sprintf(" %s %d %x", name, e, b)
	}
	return told
}

// sameDisk holds two disks against each other, behind each crash too.
func sameDisk(t *testing.T, what string, got, want *file.Disk) {
	t.Helper()
	if g, w := view(got), view(want); g != w {
		t.Fatalf("%s:\n got %s\nwant %s", what, g, w)
	}
	for _, keep := range keepings(got.Pending()) {
		g, w := got.Copy(), want.Copy()
		g.Crash(keep)
		w.Crash(keep)
		if view(g) != view(w) {
			t.Fatalf("%s, crash %v:\n got %s\nwant %s", what, keep, view(g), view(w))
		}
	}
}

// has says that a segment tells just these bodies.
func has(t *testing.T, what string, s *Segment, bodies [][]byte) {
	t.Helper()
	if s.Count() != len(bodies) || s.Size() != sizeOf(bodies) {
		t.Fatalf("%s: Count %d, Size %d, want %d, %d", what, s.Count(), s.Size(), len(bodies), sizeOf(bodies))
	}
	for i, want := range bodies {
		if b, e := s.Read(i); e != api.OK || !bytes.Equal(b, want) {
			t.Fatalf("%s: Read(%d) = %x, %d, want %x", what, i, b, e, want)
		}
	}
	for _, i := range []int{-1, len(bodies), len(bodies) + 1} {
		if b, e := s.Read(i); e != api.ErrArg || b != nil {
			t.Fatalf("%s: Read(%d) = %x, %d", what, i, b, e)
		}
	}
}

// sut is a segment and its model, which are told the same.
type sut struct {
	disk *file.Disk
	seg  *Segment
	mod  *model
	// ref is the model's disk.
	ref   *file.Disk
	count int
	// may are the frames that a crash may leave, a beginning of them; least is how many of them it must.
	may   [][]byte
	least int
	// failed: the disk, with its power, failed within an Open or a Truncate; till the next crash P8.5 is not asked.
	failed bool
}

func begun(t *testing.T) *sut {
	t.Helper()
	s := &sut{disk: file.New(), ref: file.New()}
	s.open(t)
	return s
}

func (s *sut) agree(t *testing.T, what string, got, want api.Errno) {
	t.Helper()
	if got != want {
		t.Fatalf("%s: %d, want %d", what, got, want)
	}
	if view(s.disk) != view(s.ref) {
		t.Fatalf("%s:\n got %s\nwant %s", what, view(s.disk), view(s.ref))
	}
	if s.seg != nil {
		has(t, what, s.seg, s.mod.bodies)
		if s.seg.Broken() != s.mod.broken {
			t.Fatalf("%s: Broken %v", what, s.seg.Broken())
		}
	}
}

// open opens it anew; beside an error the segment stays the one that was.
func (s *sut) open(t *testing.T) api.Errno {
	t.Helper()
	seg, got := Open(s.disk, "s")
	mod, want := opened(s.ref)
	if got != want || (seg != nil) != (want == api.OK) {
		t.Fatalf("Open: %v, %d, want %d", seg, got, want)
	}
	if got == api.OK {
		s.seg, s.mod, s.may = seg, mod, slices.Clone(mod.bodies)
		if len(s.may) < s.least && !s.failed {
			t.Fatalf("Open: %d frames, want %d", len(s.may), s.least)
		}
		s.least = min(s.least, len(s.may))
	} else if got != api.ErrDown {
		s.failed = true
	}
	s.agree(t, "Open", got, want)
	return got
}

func (s *sut) append(t *testing.T, size int) api.Errno {
	t.Helper()
	body := bodyOf(s.count, size)
	s.count++
	place, got := s.seg.Append(body)
	wanted, want := s.mod.append(body)
	if place != wanted {
		t.Fatalf("Append: %d, want %d", place, wanted)
	}
	if got == api.OK {
		s.may = append(s.may, body)
	}
	s.agree(t, fmt.Sprintf("Append(%d bytes)", size), got, want)
	return got
}

func (s *sut) sync(t *testing.T) api.Errno {
	t.Helper()
	got, want := s.seg.Sync(), s.mod.sync()
	if got == api.OK {
		s.least = len(s.may)
	}
	s.agree(t, "Sync", got, want)
	return got
}

func (s *sut) truncate(t *testing.T, n int) api.Errno {
	t.Helper()
	none := s.mod.broken || n < 0 || n >= s.seg.Count()
	got, want := s.seg.Truncate(n), s.mod.truncate(n)
	switch {
	case none:
	case got == api.OK:
		s.may, s.least = s.may[:n:n], n
	default:
		s.least = min(s.least, n)
		s.failed = s.failed || got != api.ErrDown
	}
	s.agree(t, fmt.Sprintf("Truncate(%d)", n), got, want)
	return got
}

func (s *sut) crash(t *testing.T, keep []bool) {
	t.Helper()
	s.disk.Crash(keep)
	s.ref.Crash(keep)
	s.kept(t, fmt.Sprint("crash ", keep), s.disk)
	// Nothing is unsynced now.
	s.may, s.failed = framesOf(bytesOn(t, s.disk)), false
	s.least = len(s.may)
}

// kept says what P8.5 does of a disk behind a crash.
func (s *sut) kept(t *testing.T, what string, d *file.Disk) {
	t.Helper()
	if s.failed {
		return
	}
	bodies := framesOf(bytesOn(t, d))
	if len(bodies) < s.least || len(bodies) > len(s.may) {
		t.Fatalf("%s: %d frames, want %d to %d", what, len(bodies), s.least, len(s.may))
	}
	for i, body := range bodies {
		if !bytes.Equal(body, s.may[i]) {
			t.Fatalf("%s: frame %d is %x, want %x", what, i, body, s.may[i])
		}
	}
}

// run does one line: append size, sync, truncate n, shorten (by one), open, arm n, fail n e, crash 101.
func (s *sut) run(t *testing.T, line string) api.Errno {
	t.Helper()
	words := strings.Split(line, " ")
	number := func(i int) int {
		n, err := strconv.Atoi(words[i])
		if err != nil {
			t.Fatal(err)
		}
		return n
	}
	switch words[0] {
	case "append":
		return s.append(t, number(1))
	case "sync":
		return s.sync(t)
	case "truncate":
		return s.truncate(t, number(1))
	case "shorten":
		return s.truncate(t, s.seg.Count()-1)
	case "open":
		return s.open(t)
	case "arm":
		s.ref.Arm(number(1))
		return s.disk.Arm(number(1))
	case "fail":
		s.ref.Fail(number(1), api.Errno(number(2)))
		return s.disk.Fail(number(1), api.Errno(number(2)))
	case "crash":
		var keep []bool
		for _, c := range words[1] {
			keep = append(keep, c == '1')
		}
		s.crash(t, keep)
		return api.OK
	}
	t.Fatalf("no such line: %q", line)
	return 0
}

// script does lines, parted by ';', on a new disk; each is answered OK.
func script(t *testing.T, lines string) *sut {
	t.Helper()
	s := begun(t)
	for _, line := range strings.Split(lines, "; ") {
		if line == "" {
			continue
		}
		if e := s.run(t, line); e != api.OK {
			t.Fatalf("%s: %s: %d", lines, line, e)
		}
	}
	return s
}
