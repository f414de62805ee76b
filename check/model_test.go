package check

import (
	"bytes"
	"encoding/binary"
	"fmt"
	"math/bits"
	"slices"
	"strconv"
	"strings"
	"testing"

	"conduit/api"
	"conduit/file"
)

// bodiesOf are the bodies of a file's frames, as the Words of chapter 8 tell them.
func bodiesOf(held []byte) [][]byte {
	var stream []byte
	for sector := range slices.Chunk(held, 64) {
		filled := int(sector[0])
		if filled > 62 {
			filled = 0
		}
		stream = append(stream, sector[2:2+filled]...)
		if filled != 62 {
			break
		}
	}
	var bodies [][]byte
	for len(stream) >= 4 {
		size := int(binary.BigEndian.Uint32(stream))
		if size > 65536 || len(stream)-4 < size {
			break
		}
		bodies = append(bodies, stream[4:4+size])
		stream = stream[4+size:]
	}
	return bodies
}

// cleanOf is the clean file of these bodies, laid byte by byte.
func cleanOf(bodies ...[]byte) []byte {
	var held []byte
	filled := 62
	for _, body := range bodies {
		for _, b := range append(binary.BigEndian.AppendUint32(nil, uint32(len(body))), body...) {
			if filled == 62 {
				held = append(held, make([]byte, 64)...)
				filled = 0
			}
			last := held[len(held)-64:]
			last[2+filled] = b
			filled++
			last[0] = byte(filled)
		}
	}
	return held
}

// op is an operation of a Save: "mend 2" (a sector of what is beside is put as a clean file has it), "cut 1", "put 0" (a sector of the new file), "sync", "rename", "names".
type op string

func opsOf(text string) []op {
	var ops []op
	for _, one := range strings.Split(text, ", ") {
		ops = append(ops, op(one))
	}
	return ops
}

// do does an operation of a Save of that name; was is the clean file of what is beside, is the new one.
func (o op) do(d *file.Disk, name string, was, is []byte) api.Errno {
	what, number, _ := strings.Cut(string(o), " ")
	at, _ := strconv.Atoi(number)
	switch what {
	case "mend":
		return d.Put(name+"~", at, was[at*64:at*64+64])
	case "put":
		return d.Put(name+"~", at, is[at*64:at*64+64])
	case "cut":
		return d.Cut(name+"~", at)
	case "sync":
		return d.Sync(name + "~")
	case "rename":
		return d.Rename(name+"~", name)
	}
	return d.SyncNames()
}

func doAll(d *file.Disk, name string, was, is []byte, ops []op) api.Errno {
	for _, o := range ops {
		if e := o.do(d, name, was, is); e != api.OK {
			return e
		}
	}
	return api.OK
}

// savingOps are the operations of a Save, as P11.1, P8.1 to P8.3 tell them; held are the bytes of what is beside.
func savingOps(held, is []byte) []op {
	var ops []op
	bodies := bodiesOf(held)
	if clean := cleanOf(bodies...); !bytes.Equal(held, clean) {
		n := len(clean) / 64
		if n > 0 && clean[n*64-64] != 62 {
			ops = append(ops, op(fmt.Sprint("mend ", n-1)))
		}
		ops = append(ops, op(fmt.Sprint("cut ", n)), "sync")
	}
	if len(bodies) > 0 {
		ops = append(ops, "cut 0", "sync")
	}
	for at := range len(is) / 64 {
		ops = append(ops, op(fmt.Sprint("put ", at)))
	}
	return append(ops, "sync", "rename", "names")
}

// modelSave does what a Save does by the disk's operations alone.
func modelSave(d *file.Disk, name string, b []byte) api.Errno {
	held, e := d.Read(name + "~")
	if e != api.OK && e != api.ErrFile {
		return e
	}
	is := cleanOf(b)
	return doAll(d, name, cleanOf(bodiesOf(held)...), is, savingOps(held, is))
}

// told is what a Load answers.
type told struct {
	b  string
	ok bool
	e  api.Errno
}

// body is what a Load answers of what was saved.
func body(b []byte) told {
	return told{string(b), true, api.OK}
}

// modelLoad is what a Load answers, as P11.2 tells it.
func modelLoad(d *file.Disk, name string) told {
	held, e := d.Read(name)
	if e == api.ErrFile {
		return told{}
	}
	if e != api.OK {
		return told{e: e}
	}
	bodies := bodiesOf(held)
	if len(bodies) != 1 {
		return told{e: api.ErrLog}
	}
	return body(bodies[0])
}

// load is what Load answers, held against the model; it says that the disk is as it was.
func load(t *testing.T, what string, d *file.Disk, name string) told {
	t.Helper()
	was := view(d)
	b, ok, e := Load(d, name)
	got := told{string(b), ok, e}
	if want := modelLoad(d, name); got != want {
		t.Fatalf("%s: Load of %q: %s, want %s", what, name, got, want)
	}
	if view(d) != was {
		t.Fatalf("%s: Load of %q has changed the disk", what, name)
	}
	return got
}

func (l told) String() string {
	return fmt.Sprintf("%.60q (%d bytes), %v, %d", l.b, len(l.b), l.ok, l.e)
}

// row tells numbers without a pattern, always the same ones.
func row(seed uint64) func(below int) int {
	return func(below int) int {
		seed = seed*6364136223846793005 + 1442695040888963407
		return int((bits.Reverse64(seed) ^ seed>>7) % uint64(below))
	}
}

// bodyOf is a body of that size, unlike those of other numbers; some are noughts, or look like frames or sectors.
func bodyOf(number, size int) []byte {
	body := make([]byte, size)
	for i := range body {
		switch number % 4 {
		case 0, 1:
			body[i] = byte(7*i + 31*number + 1)
		case 2:
			body[i] = []byte{0, 0, 0, 1}[i%4]
		case 3:
			body[i] = []byte{62, 0}[i%2]
		}
	}
	if size > 0 {
		body[size-1] = byte(number)
	}
	return body
}

// keepings are lists for Crash: each mix of up to seven steps; of more, some.
func keepings(steps int) [][]bool {
	free := steps
	if steps > 7 {
		free = 4
	}
	var lists [][]bool
	for mix := range 1 << free {
		list := make([]bool, steps)
		for i := range list {
			list[i] = mix>>(i%free)&1 == 1
		}
		lists = append(lists, list)
	}
	return lists
}

// view is what a disk tells without changing.
func view(d *file.Disk) string {
	var text strings.Builder
	fmt.Fprint(&text, d.Names(), d.Pending())
	for _, name := range d.Names() {
		b, e := d.Read(name)
		fmt.Fprintf(&text, " %s %d %d ", name, e, len(b))
		text.Write(b)
	}
	return text.String()
}

// sameDisk holds two disks against each other, behind each crash too.
func sameDisk(t *testing.T, what string, got, want *file.Disk) {
	t.Helper()
	if g, w := view(got), view(want); g != w {
		t.Fatalf("%s:\n got %.400q\nwant %.400q", what, g, w)
	}
	for _, keep := range keepings(got.Pending()) {
		g, w := got.Copy(), want.Copy()
		g.Crash(keep)
		w.Crash(keep)
		if view(g) != view(w) {
			t.Fatalf("%s, crash %v:\n got %.400q\nwant %.400q", what, keep, view(g), view(w))
		}
	}
}

// unplug takes a disk's power away.
func unplug(d *file.Disk) {
	d.Arm(0)
	d.SyncNames()
}

// lay puts a file of these bytes on a disk, unsynced.
func lay(t *testing.T, d *file.Disk, name string, held []byte) {
	t.Helper()
	if _, e := d.Read(name); e == api.ErrFile {
		d.Put(name, 0, make([]byte, 64))
	}
	d.Cut(name, 0)
	for at := range len(held) / 64 {
		if e := d.Put(name, at, held[at*64:at*64+64]); e != api.OK {
			t.Fatal(e)
		}
	}
}

// with puts a file of these bytes on a disk, synced.
func with(t *testing.T, d *file.Disk, name string, held []byte) {
	t.Helper()
	lay(t, d, name, held)
	d.Sync(name)
	d.SyncNames()
}

// save saves, and says that nothing is left to be synced, nor beside.
func save(t *testing.T, what string, d *file.Disk, name string, b []byte) {
	t.Helper()
	if e := Save(d, name, b); e != api.OK {
		t.Fatalf("%s: Save of %q: %d", what, name, e)
	}
	if held, e := d.Read(name); e != api.OK || !bytes.Equal(held, cleanOf(b)) {
		t.Fatalf("%s: Save of %q: the file is %.80x, %d", what, name, held, e)
	}
	if _, e := d.Read(name + "~"); e != api.ErrFile {
		t.Fatalf("%s: Save of %q: beside it is a file (%d)", what, name, e)
	}
	if got := load(t, what, d, name); got != body(b) {
		t.Fatalf("%s: Save of %q: %s", what, name, got)
	}
	for _, keep := range keepings(d.Pending()) {
		c := d.Copy()
		c.Crash(keep)
		if got := load(t, what+", crash", c, name); got != body(b) {
			t.Fatalf("%s: Save of %q, crash %v: %s", what, name, keep, got)
		}
	}
}
