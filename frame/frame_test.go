package frame

import (
	"bytes"
	"encoding/binary"
	"math"
	"math/bits"
	"testing"

	"conduit/api"
)

// model is the chapter's rule, one byte at a time: it knows the begun frame's length as soon as four bytes stand, and never looks back.
type model struct {
	head  []byte
	body  []byte
	needs int
	ended bool
}

func (m *model) feed(b []byte) ([][]byte, api.Errno) {
	var told [][]byte
	for _, octet := range b {
		if m.ended {
			break
		}
		if len(m.head) < 4 {
			m.head = append(m.head, octet)
			if len(m.head) < 4 {
				continue
			}
			n := binary.BigEndian.Uint32(m.head)
			m.ended = n > 65536
			m.needs = int(n)
		} else {
			m.body = append(m.body, octet)
		}
		if !m.ended && len(m.body) == m.needs {
			told = append(told, m.body)
			m.head, m.body, m.needs = nil, nil, 0
		}
	}
	if m.ended {
		return nil, api.ErrFrame
	}
	return told, api.OK
}

func (m *model) left() int {
	if m.ended {
		return 0
	}
	return len(m.head) + len(m.body)
}

// row tells numbers without a pattern, always the same ones.
func row(seed uint64) func(below int) int {
	return func(below int) int {
		seed = seed*6364136223846793005 + 1442695040888963407
		return int((bits.Reverse64(seed) ^ seed>>7) % uint64(below))
	}
}

// pattern is a body in which neighbours differ, and that no other seed has.
func pattern(size, seed int) []byte {
	out := make([]byte, size)
	for i := range out {
		out[i] = byte(i*7 + i>>8 + seed*31)
	}
	return out
}

func framed(bodies ...[]byte) []byte {
	var out []byte
	for _, body := range bodies {
		out = binary.BigEndian.AppendUint32(out, uint32(len(body)))
		out = append(out, body...)
	}
	return out
}

func says(n uint32) []byte {
	return binary.BigEndian.AppendUint32(nil, n)
}

func joined(pieces ...[]byte) []byte {
	return bytes.Join(pieces, nil)
}

func same(a, b [][]byte) bool {
	if len(a) != len(b) {
		return false
	}
	for i := range a {
		if !bytes.Equal(a[i], b[i]) {
			return false
		}
	}
	return true
}

// feedBoth hands the pieces to a reader and to the model, holds each answer against the other, and answers all bodies that were told.
func feedBoth(t *testing.T, what string, pieces ...[]byte) [][]byte {
	t.Helper()
	r, m := New(), &model{}
	var all [][]byte
	for i, piece := range pieces {
		got, e := r.Feed(piece)
		want, wantErr := m.feed(piece)
		if e != wantErr || !same(got, want) {
			t.Fatalf("%s: piece %d: told %d frames, error %d; want %d frames, error %d", what, i, len(got), e, len(want), wantErr)
		}
		if e != api.OK && got != nil {
			t.Fatalf("%s: piece %d: frames beside an error", what, i)
		}
		if r.Left() != m.left() {
			t.Fatalf("%s: piece %d: Left %d, want %d", what, i, r.Left(), m.left())
		}
		all = append(all, got...)
	}
	return all
}

func singles(b []byte) [][]byte {
	var out [][]byte
	for i := range b {
		out = append(out, b[i:i+1])
	}
	return out
}

func TestExamples(t *testing.T) {
	if b, e := Put([]byte{0x61}); e != api.OK || !bytes.Equal(b, []byte{0, 0, 0, 1, 0x61}) {
		t.Error(b, e)
	}
	for _, none := range [][]byte{nil, {}} {
		if b, e := Put(none); e != api.OK || !bytes.Equal(b, []byte{0, 0, 0, 0}) {
			t.Error(b, e)
		}
	}
	r := New()
	if l, e := r.Feed([]byte{0, 0}); len(l) != 0 || e != api.OK {
		t.Error(l, e)
	}
	if l, e := r.Feed([]byte{0, 1, 0x61, 0}); e != api.OK || !same(l, [][]byte{{0x61}}) || r.Left() != 1 {
		t.Error(l, e, r.Left())
	}
	r = New()
	if l, e := r.Feed([]byte{0, 1, 0, 1}); l != nil || e != api.ErrFrame {
		t.Error(l, e)
	}
	if l, e := r.Feed(nil); l != nil || e != api.ErrFrame || r.Left() != 0 {
		t.Error(l, e, r.Left())
	}
}

// P4.1: four bytes of length, the highest first, and the body.
func TestPut(t *testing.T) {
	for _, size := range []int{0, 1, 2, 3, 4, 5, 127, 128, 255, 256, 257, 258, 4095, 65279, 65280, 65534, 65535, 65536} {
		body := pattern(size, size)
		b, e := Put(body)
		if e != api.OK || !bytes.Equal(b, framed(body)) {
			t.Errorf("Put of %d bytes: error %d, %d bytes", size, e, len(b))
		}
	}
	b, e := Put(make([]byte, 65536))
	if e != api.OK || len(b) != 65540 || !bytes.Equal(b[:4], []byte{0, 1, 0, 0}) {
		t.Error("the longest body", e, len(b))
	}
}

func TestPutTooLong(t *testing.T) {
	for _, size := range []int{65537, 65538, 65540, 65541, 1 << 17, 1<<24 + 1} {
		if b, e := Put(make([]byte, size)); b != nil || e != api.ErrLong {
			t.Errorf("Put of %d bytes: %d bytes, error %d", size, len(b), e)
		}
	}
}

// P4.2: frames that are whole are told at once, in order, each with its own body.
func TestManyFramesInOnePiece(t *testing.T) {
	bodies := [][]byte{nil, {1}, nil, nil, pattern(300, 1), {0, 0, 0, 0}, {0, 0, 0, 1, 9}, pattern(65535, 2), {0xFF}, pattern(65536, 3), nil}
	for many := range len(bodies) + 1 {
		stream := framed(bodies[:many]...)
		if got := feedBoth(t, "whole", stream); !same(got, bodies[:many]) {
			t.Errorf("%d frames: %d told", many, len(got))
		}
		if got := feedBoth(t, "whole and a begin", joined(stream, []byte{0, 0, 1})); !same(got, bodies[:many]) {
			t.Errorf("%d frames and a begin: %d told", many, len(got))
		}
	}
}

// P4.3: however bytes are cut, the frames are the same.
func TestCutIntoTwo(t *testing.T) {
	rows := [][][]byte{
		{nil}, {{7}}, {nil, nil}, {pattern(5, 1)}, {pattern(300, 2)},
		{{1}, nil, pattern(9, 3), {2, 3}},
		{pattern(257, 4), pattern(256, 5), pattern(255, 6)},
	}
	for _, bodies := range rows {
		stream := framed(bodies...)
		for at := range len(stream) + 1 {
			if got := feedBoth(t, "two pieces", stream[:at], stream[at:]); !same(got, bodies) {
				t.Fatalf("cut at %d: %d told", at, len(got))
			}
			if got := feedBoth(t, "with pieces of none", nil, stream[:at], nil, []byte{}, stream[at:], nil); !same(got, bodies) {
				t.Fatalf("cut at %d, with pieces of none: %d told", at, len(got))
			}
		}
	}
}

func TestCutIntoThree(t *testing.T) {
	bodies := [][]byte{{1, 2}, nil, pattern(6, 1), {3}}
	stream := framed(bodies...)
	for a := range len(stream) + 1 {
		for b := a; b <= len(stream); b++ {
			if got := feedBoth(t, "three pieces", stream[:a], stream[a:b], stream[b:]); !same(got, bodies) {
				t.Fatalf("cut at %d and %d: %d told", a, b, len(got))
			}
		}
	}
}

func TestCutTheLongest(t *testing.T) {
	for _, size := range []int{65535, 65536} {
		bodies := [][]byte{pattern(size, 1), {5}}
		stream := framed(bodies...)
		for _, at := range []int{0, 1, 2, 3, 4, 5, 255, 256, 32768, size - 1, size, size + 1, size + 2, size + 3, size + 4, size + 5, size + 8, size + 9} {
			if got := feedBoth(t, "the longest", stream[:at], stream[at:]); !same(got, bodies) {
				t.Fatalf("%d bytes cut at %d: %d told", size, at, len(got))
			}
		}
		for at := 11; at < len(stream); at += 977 {
			feedBoth(t, "the longest", stream[:at], stream[at:])
		}
	}
}

func TestSingleBytes(t *testing.T) {
	bodies := [][]byte{nil, {1}, pattern(1000, 1), nil, pattern(65536, 2), {2, 3}}
	if got := feedBoth(t, "single bytes", singles(framed(bodies...))...); !same(got, bodies) {
		t.Errorf("%d told", len(got))
	}
}

// A frame of the same row, one short of whole, is not told; the last byte brings it.
func TestOneByteShort(t *testing.T) {
	for _, size := range []int{1, 2, 255, 256, 65535, 65536} {
		body := pattern(size, size)
		stream := framed(body)
		r := New()
		if l, e := r.Feed(stream[:len(stream)-1]); len(l) != 0 || e != api.OK || r.Left() != size+3 {
			t.Error(size, len(l), e, r.Left())
		}
		if l, e := r.Feed(stream[len(stream)-1:]); e != api.OK || !same(l, [][]byte{body}) || r.Left() != 0 {
			t.Error(size, len(l), e, r.Left())
		}
	}
}

func TestPiecesOfNoBytes(t *testing.T) {
	r := New()
	for range 3 {
		for _, none := range [][]byte{nil, {}, make([]byte, 0, 8)} {
			if l, e := r.Feed(none); len(l) != 0 || e != api.OK || r.Left() != 0 {
				t.Error(l, e, r.Left())
			}
		}
	}
	r.Feed([]byte{0, 0, 0, 2, 5})
	if l, e := r.Feed(nil); len(l) != 0 || e != api.OK || r.Left() != 5 {
		t.Error(l, e, r.Left())
	}
	if l, e := r.Feed([]byte{6}); e != api.OK || !same(l, [][]byte{{5, 6}}) {
		t.Error(l, e)
	}
}

var tooLong = []uint32{65537, 65538, 65536 + 256, 1 << 17, 1<<24 - 1, 1 << 24, 1<<24 + 1, 1 << 30, 1<<31 - 1, 1 << 31, 1<<31 + 1, math.MaxUint32 - 1, math.MaxUint32}

// ended holds what every call behind the end is to answer.
func ended(t *testing.T, what string, r *Reader) {
	t.Helper()
	for _, b := range [][]byte{nil, {}, {0}, {0, 0, 0, 0}, framed([]byte{1}), framed(pattern(65536, 1)), says(65537), {}} {
		if l, e := r.Feed(b); l != nil || e != api.ErrFrame {
			t.Errorf("%s: behind the end: %d frames, error %d", what, len(l), e)
		}
		if r.Left() != 0 {
			t.Errorf("%s: behind the end: Left %d", what, r.Left())
		}
	}
}

func TestTooLongAtTheBegin(t *testing.T) {
	for _, n := range tooLong {
		for _, behind := range [][]byte{nil, {1}, make([]byte, 70000), framed([]byte{1})} {
			r := New()
			if l, e := r.Feed(joined(says(n), behind)); l != nil || e != api.ErrFrame || r.Left() != 0 {
				t.Errorf("%d: %d frames, error %d, Left %d", n, len(l), e, r.Left())
			}
			ended(t, "at the begin", r)
		}
		feedBoth(t, "single bytes", singles(joined(says(n), []byte{1, 2, 3}))...)
	}
}

func TestTooLongBehindFrames(t *testing.T) {
	for _, n := range tooLong {
		for _, bodies := range [][][]byte{{nil}, {{1}}, {{1}, nil, pattern(300, 1)}, {pattern(65536, 2)}} {
			r := New()
			if l, e := r.Feed(joined(framed(bodies...), says(n))); l != nil || e != api.ErrFrame || r.Left() != 0 {
				t.Errorf("%d: %d frames, error %d, Left %d", n, len(l), e, r.Left())
			}
			ended(t, "behind frames", r)
		}
	}
}

// Frames that were told ahead of the end stay told; those of the ending call are not.
func TestTooLongCutEverywhere(t *testing.T) {
	bodies := [][]byte{{1, 2}, nil, {3}}
	stream := joined(framed(bodies...), says(65537), []byte{9, 9})
	for at := range len(stream) + 1 {
		feedBoth(t, "an end, cut", stream[:at], stream[at:], nil, framed([]byte{1}))
	}
	feedBoth(t, "an end, in single bytes", singles(stream)...)
}

// Fewer than four bytes end nothing, whatever they begin to say; nor does a length in a body.
func TestNoEndYet(t *testing.T) {
	for _, b := range [][]byte{{0xFF}, {0xFF, 0xFF}, {0xFF, 0xFF, 0xFF}, {0, 1, 0}, {0, 2, 0}} {
		r := New()
		if l, e := r.Feed(b); len(l) != 0 || e != api.OK || r.Left() != len(b) {
			t.Error(b, l, e, r.Left())
		}
		if l, e := r.Feed([]byte{0xFF, 0xFF, 0xFF}); l != nil || e != api.ErrFrame || r.Left() != 0 {
			t.Error(b, l, e, r.Left())
		}
	}
	r := New()
	if l, e := r.Feed(says(65536)); len(l) != 0 || e != api.OK || r.Left() != 4 {
		t.Error(l, e, r.Left())
	}
	body := says(math.MaxUint32)
	if got := feedBoth(t, "a length in a body", framed(body, body)); !same(got, [][]byte{body, body}) {
		t.Error(got)
	}
}

// P4.3: what is left is less than the begun frame needs.
func TestLeftIsLessThanNeeded(t *testing.T) {
	next := row(5)
	r := New()
	var stream []byte
	for i := range 40 {
		stream = append(stream, framed(pattern(next(200), i))...)
	}
	begun := 0
	for at := 0; at < len(stream); {
		end := min(len(stream), at+next(90))
		l, e := r.Feed(stream[at:end])
		for _, body := range l {
			begun += 4 + len(body)
		}
		at = end
		needs := 4
		if r.Left() >= 4 {
			needs += int(binary.BigEndian.Uint32(stream[begun:]))
		}
		if e != api.OK || r.Left() != at-begun || r.Left() >= needs {
			t.Fatal(at, begun, e, r.Left(), needs)
		}
	}
}

func TestPiecesWithoutAPattern(t *testing.T) {
	next := row(9)
	for round := range 400 {
		var bodies [][]byte
		for i := range next(12) {
			size := []int{0, 1, next(5), next(40), next(700), 65536 - next(2)}[next(6)]
			bodies = append(bodies, pattern(size, round+i))
		}
		stream := framed(bodies...)
		if next(4) == 0 {
			stream = joined(stream, says(tooLong[next(len(tooLong))]), pattern(next(20), round))
		}
		widest := 1 + next(1+next(1+len(stream)))
		var pieces [][]byte
		for len(stream) > 0 {
			size := min(next(widest+1), len(stream))
			pieces = append(pieces, stream[:size])
			stream = stream[size:]
		}
		feedBoth(t, "pieces", pieces...)
	}
}

// Bytes that nobody framed: few kinds of bytes, so that short lengths and ends come about often.
func TestAnyBytes(t *testing.T) {
	next := row(77)
	kinds := []byte{0, 0, 0, 0, 0, 0, 1, 2, 5, 0xFF}
	for range 3000 {
		var pieces [][]byte
		for range 1 + next(6) {
			piece := make([]byte, next(14))
			for i := range piece {
				piece[i] = kinds[next(len(kinds))]
			}
			pieces = append(pieces, piece)
		}
		feedBoth(t, "any bytes", pieces...)
	}
}

// What Put answers is what Feed tells, of every length up to some and at the limit.
func TestPutThenFeed(t *testing.T) {
	r := New()
	for size := range 600 {
		b, e := Put(pattern(size, size))
		if e != api.OK {
			t.Fatal(size, e)
		}
		if l, e := r.Feed(b); e != api.OK || !same(l, [][]byte{pattern(size, size)}) || r.Left() != 0 {
			t.Fatal(size, len(l), e, r.Left())
		}
	}
	b, _ := Put(pattern(65536, 1))
	if l, e := r.Feed(b); e != api.OK || !same(l, [][]byte{pattern(65536, 1)}) || r.Left() != 0 {
		t.Error(len(l), e, r.Left())
	}
}

// R5: a nil reader, and one that New did not answer; a copy of a reader is none of New's either.
func TestNoReader(t *testing.T) {
	made := New()
	made.Feed([]byte{0, 0, 0, 2, 1})
	copyOf := *made
	readers := map[string]*Reader{"nil": nil, "zero": {}, "new": new(Reader), "copy": &copyOf}
	for name, r := range readers {
		for _, b := range [][]byte{nil, {}, {0}, framed([]byte{1}), says(65537), framed(nil, nil), {1, 2, 3, 4}} {
			if l, e := r.Feed(b); l != nil || e != api.ErrNil {
				t.Errorf("%s: %d frames, error %d", name, len(l), e)
			}
			if r.Left() != 0 {
				t.Errorf("%s: Left %d", name, r.Left())
			}
		}
	}
	if l, e := made.Feed([]byte{2}); e != api.OK || !same(l, [][]byte{{1, 2}}) {
		t.Error("the reader that was copied", l, e)
	}
}

func TestNoReaderBehindAnEnd(t *testing.T) {
	made := New()
	made.Feed(says(65537))
	copyOf := *made
	if l, e := copyOf.Feed(nil); l != nil || e != api.ErrNil {
		t.Error("ErrNil counts ahead of ErrFrame", l, e)
	}
}

func TestNewReader(t *testing.T) {
	a, b := New(), New()
	if a == nil || b == nil || a == b || a.Left() != 0 {
		t.Fatal("New answers one that others have, or none")
	}
	a.Feed([]byte{0, 0, 0, 1})
	if b.Left() != 0 {
		t.Error("readers share what is left")
	}
	b.Feed(says(65537))
	if l, e := a.Feed([]byte{8}); e != api.OK || !same(l, [][]byte{{8}}) {
		t.Error("another reader's end ends this one", l, e)
	}
	ended(t, "the other", b)
}

// roomy is b with spare room behind it, and all of its memory.
func roomy(b []byte) (list, memory []byte) {
	memory = append(append([]byte{}, b...), bytes.Repeat([]byte{0xA5}, 64)...)
	return memory[:len(b)], memory
}

func TestPutLeavesItsArgument(t *testing.T) {
	for _, size := range []int{0, 1, 4, 300, 65536, 65537} {
		body, memory := roomy(pattern(size, 1))
		before := bytes.Clone(memory)
		out, _ := Put(body)
		full := out[:cap(out)]
		for i := range full {
			full[i] ^= 0xFF
		}
		if !bytes.Equal(memory, before) {
			t.Errorf("%d bytes: changed, or shared with the answer", size)
		}
		first, _ := Put(body)
		for i := range memory {
			memory[i]++
		}
		if size <= 65536 && !bytes.Equal(first, framed(pattern(size, 1))) {
			t.Errorf("%d bytes: the answer hangs on the argument's memory", size)
		}
	}
}

// R3: each piece, its spare room too, is as it was; and may be changed behind the call.
func TestFeedLeavesItsArgument(t *testing.T) {
	bodies := [][]byte{{1, 2, 3}, nil, pattern(100, 1), {4}, pattern(2000, 2), nil}
	stream := framed(bodies...)
	for _, width := range []int{1, 2, 3, 5, 50, 500, len(stream)} {
		r := New()
		var told [][]byte
		for at := 0; at < len(stream); at += width {
			piece, memory := roomy(stream[at:min(len(stream), at+width)])
			before := bytes.Clone(memory)
			l, e := r.Feed(piece)
			if e != api.OK || !bytes.Equal(memory, before) {
				t.Fatalf("width %d: the piece at %d was changed (error %d)", width, at, e)
			}
			told = append(told, l...)
			for i := range memory {
				memory[i] ^= 0xFF
			}
		}
		if !same(told, bodies) {
			t.Errorf("width %d: what is told hangs on memory that was handed in", width)
		}
	}
}

func TestEndLeavesItsArgument(t *testing.T) {
	piece, memory := roomy(joined(framed([]byte{1, 2}), says(65537), []byte{3}))
	before := bytes.Clone(memory)
	r := New()
	for range 3 {
		r.Feed(piece)
		(*Reader)(nil).Feed(piece)
		new(Reader).Feed(piece)
		if !bytes.Equal(memory, before) {
			t.Fatal("a piece that was refused was changed")
		}
	}
}

// R3: to fill one told list, spare room too, changes no other list, nor what is left.
func TestToldListsShareNothing(t *testing.T) {
	bodies := [][]byte{{1}, nil, pattern(30, 1), {2, 3}, nil, pattern(31, 2), {4}}
	stream := framed(bodies...)
	last := framed(pattern(40, 3))
	for cut := range len(last) {
		r := New()
		first, e := r.Feed(joined(stream, last[:cut]))
		if e != api.OK || !same(first, bodies) {
			t.Fatal(cut, e, len(first))
		}
		for i := range first {
			full := first[i][:cap(first[i])]
			for j := range full {
				full[j] ^= 0xFF
			}
			for j, other := range first {
				if j > i && !bytes.Equal(other, bodies[j]) {
					t.Fatalf("lists %d and %d share memory", i, j)
				}
			}
		}
		clear(first[:cap(first)])
		second, e := r.Feed(joined(last[cut:], stream))
		if e != api.OK || !same(second, append([][]byte{pattern(40, 3)}, bodies...)) {
			t.Fatalf("cut at %d: what was told shares memory with what is left", cut)
		}
	}
}

// What was told stays as it was, whatever the reader is fed later.
func TestToldStays(t *testing.T) {
	r := New()
	var told, want [][]byte
	for i := range 60 {
		stream := framed(pattern(i%9, i), pattern(i%5, i+1))
		for _, piece := range [][]byte{stream[:i%len(stream)], stream[i%len(stream):]} {
			l, _ := r.Feed(piece)
			told = append(told, l...)
		}
		want = append(want, pattern(i%9, i), pattern(i%5, i+1))
	}
	r.Feed(says(65537))
	if !same(told, want) {
		t.Error("lists that were told have changed")
	}
}
