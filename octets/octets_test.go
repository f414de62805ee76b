package octets

import (
	"bytes"
	"encoding/binary"
	"math"
	"strings"
	"testing"

	"conduit/api"
)

// reader is U8, U16, U32 or U64 with its answer widened, so that one test serves all four.
type reader struct {
	name string
	size int
	read func(b []byte, at int) (uint64, bool)
}

func readers() []reader {
	return []reader{
		{"U8", 1, func(b []byte, at int) (uint64, bool) { n, ok := U8(b, at); return uint64(n), ok }},
		{"U16", 2, func(b []byte, at int) (uint64, bool) { n, ok := U16(b, at); return uint64(n), ok }},
		{"U32", 4, func(b []byte, at int) (uint64, bool) { n, ok := U32(b, at); return uint64(n), ok }},
		{"U64", 8, U64},
	}
}

// writer is Add8, Add16, Add32 or Add64; what is above the number's own bytes is left away.
type writer struct {
	name string
	size int
	add  func(b []byte, v uint64) []byte
}

func writers() []writer {
	return []writer{
		{"Add8", 1, func(b []byte, v uint64) []byte { return Add8(b, uint8(v)) }},
		{"Add16", 2, func(b []byte, v uint64) []byte { return Add16(b, uint16(v)) }},
		{"Add32", 4, func(b []byte, v uint64) []byte { return Add32(b, uint32(v)) }},
		{"Add64", 8, Add64},
	}
}

// low is the size lowest bytes of v, by another package's rule.
func low(v uint64, size int) []byte {
	return binary.BigEndian.AppendUint64(nil, v)[8-size:]
}

// said is the number that up to eight bytes say, by another package's rule.
func said(b []byte) uint64 {
	return binary.BigEndian.Uint64(append(make([]byte, 8-len(b)), b...))
}

// farPlaces are places that no list has: below 0, and where a sum with a length wraps round.
func farPlaces() []int {
	return []int{math.MinInt, math.MinInt + 1, math.MinInt + 8, -65536, -9, -8, -4, -3, -2, -1,
		1 << 20, math.MaxInt - 65537, math.MaxInt - 8, math.MaxInt - 7, math.MaxInt - 3, math.MaxInt - 2, math.MaxInt - 1, math.MaxInt}
}

func values() []uint64 {
	l := []uint64{0, 1, 2, 127, 128, 255, 256, 257, 258, 32767, 32768, 65535, 65536, 1<<31 - 1, 1 << 31, 1<<32 - 1, 1 << 32,
		1<<63 - 1, 1 << 63, math.MaxUint64, 0x0102030405060708, 0xf1e2d3c4b5a69788, 0x8000000000000001}
	for i := range 64 {
		l = append(l, 1<<i)
	}
	return l
}

// roomy is the n bytes first, first+1 .. with filled spare room behind them, and the whole of it.
func roomy(n, room int, first byte) (b, all []byte) {
	all = make([]byte, n+room)
	for i := range all {
		all[i] = first + byte(i)*7
	}
	return all[:n], all
}

func TestExamples(t *testing.T) {
	if n, ok := U16([]byte{1, 2}, 0); n != 258 || !ok {
		t.Error("U16", n, ok)
	}
	if n, ok := U32([]byte{0x80, 0, 0, 1}, 0); n != 2147483649 || !ok {
		t.Error("U32", n, ok)
	}
	if n, ok := U8([]byte{5}, 0); n != 5 || !ok {
		t.Error("U8", n, ok)
	}
	if n, ok := U64(make([]byte, 7), 0); n != 0 || ok {
		t.Error("U64 of seven bytes", n, ok)
	}
	for _, at := range []int{1, -1} {
		if n, ok := U16([]byte{1, 2}, at); n != 0 || ok {
			t.Error("U16", at, n, ok)
		}
	}
	if b := Add32([]byte{9}, 258); !bytes.Equal(b, []byte{9, 0, 0, 1, 2}) {
		t.Error("Add32", b)
	}
	b, e := AddText(nil, "\x05\x06")
	if e != api.OK || !bytes.Equal(b, []byte{0, 2, 5, 6}) {
		t.Fatal("AddText", b, e)
	}
	if s, end, ok := Text(b, 0); s != "\x05\x06" || end != 4 || !ok {
		t.Errorf("Text at 0: %q %d %v", s, end, ok)
	}
	if s, end, ok := Text(b, 1); s != "" || end != 0 || ok {
		t.Errorf("Text at 1: %q %d %v", s, end, ok)
	}
}

// P1.1: what is there is read, at every place of lists of every length around the numbers' own.
func TestReadNumbers(t *testing.T) {
	for _, r := range readers() {
		for n := range 20 {
			for _, first := range []byte{0, 1, 0x80, 0xf3} {
				b, _ := roomy(n, 16, first)
				for at := range n + 10 {
					got, ok := r.read(b, at)
					if at+r.size > n {
						if got != 0 || ok {
							t.Fatalf("%s of %x at %d: %x %v", r.name, b, at, got, ok)
						}
						continue
					}
					if want := said(b[at : at+r.size]); got != want || !ok {
						t.Fatalf("%s of %x at %d: %x %v, want %x", r.name, b, at, got, ok, want)
					}
				}
			}
		}
	}
}

// P1.1: no place outside is read, however far; spare room is outside.
func TestReadNumbersOutside(t *testing.T) {
	for _, r := range readers() {
		for _, n := range []int{0, 1, 2, 3, 4, 7, 8, 9, 16} {
			b, _ := roomy(n, 16, 0x91)
			for _, at := range append(farPlaces(), n, n+1, n-r.size+1) {
				if got, ok := r.read(b, at); got != 0 || ok {
					t.Errorf("%s of %d bytes at %d: %x %v", r.name, n, at, got, ok)
				}
			}
		}
		if got, ok := r.read(nil, 0); got != 0 || ok {
			t.Errorf("%s of none: %x %v", r.name, got, ok)
		}
	}
}

// P1.2: the bytes of a number stand behind what was there, the highest first.
func TestWriteNumbers(t *testing.T) {
	for _, w := range writers() {
		for _, v := range values() {
			for _, ahead := range [][]byte{nil, {}, {9}, {0, 0, 0}, bytes.Repeat([]byte{0xa5}, 300)} {
				want := append(bytes.Clone(ahead), low(v, w.size)...)
				if got := w.add(ahead, v); !bytes.Equal(got, want) {
					t.Errorf("%s(%x, %x) = %x, want %x", w.name, ahead, v, got, want)
				}
			}
		}
	}
}

// P1.3: a text's two bytes of length, then its own, at the lengths where two bytes begin, carry and end.
func TestAddText(t *testing.T) {
	for _, n := range []int{0, 1, 2, 255, 256, 257, 32768, 65534, api.MaxText} {
		s := strings.Repeat("\xff\x00q", n/3+1)[:n]
		for _, ahead := range [][]byte{nil, {}, {1, 2, 3}} {
			want := append(append(bytes.Clone(ahead), byte(n>>8), byte(n)), s...)
			got, e := AddText(ahead, s)
			if e != api.OK || !bytes.Equal(got, want) {
				t.Errorf("a text of %d bytes behind %x: error %d, %d bytes", n, ahead, e, len(got))
			}
		}
	}
}

// P1.3 and R2: a text that is too long is refused, and nothing is answered beside the error.
func TestAddTextTooLong(t *testing.T) {
	for _, n := range []int{65536, 65537, 65538, 131072, 131073, 1 << 20} {
		for _, ahead := range [][]byte{nil, {1, 2, 3}} {
			if got, e := AddText(ahead, strings.Repeat("a", n)); got != nil || e != api.ErrLong {
				t.Errorf("a text of %d bytes: %d bytes, error %d", n, len(got), e)
			}
		}
	}
}

// P1.3: a text is read at any place, with bytes behind it or none.
func TestText(t *testing.T) {
	for _, n := range []int{0, 1, 2, 255, 256, 32768, 65534, 65535} {
		s := strings.Repeat("\x80ab\x00", n/4+1)[:n]
		for _, at := range []int{0, 1, 5} {
			for _, behind := range []int{0, 1, 70000} {
				b := make([]byte, at, at+2+n+behind)
				b = append(append(b, byte(n>>8), byte(n)), s...)
				b = append(b, bytes.Repeat([]byte{0xee}, behind)...)
				if got, end, ok := Text(b, at); got != s || end != at+2+n || !ok {
					t.Errorf("a text of %d bytes at %d, %d behind: %d bytes, %d %v", n, at, behind, len(got), end, ok)
				}
			}
		}
	}
}

// P1.3: a text that is cut, at whatever byte, is no text; what stands in spare room does not mend it.
func TestTextCut(t *testing.T) {
	for _, n := range []int{1, 2, 3, 300} {
		whole := append([]byte{byte(n >> 8), byte(n)}, bytes.Repeat([]byte{'x'}, n)...)
		for cut := range len(whole) {
			if s, end, ok := Text(whole[:cut], 0); s != "" || end != 0 || ok {
				t.Errorf("%d of the bytes of a text of %d: %q %d %v", cut, n, s, end, ok)
			}
		}
	}
	long := append([]byte{0xff, 0xff}, make([]byte, 65535)...)
	for _, cut := range []int{0, 1, 2, 3, 65535, 65536} {
		if s, end, ok := Text(long[:cut], 0); s != "" || end != 0 || ok {
			t.Errorf("%d of the bytes of a text of 65535: %d bytes %d %v", cut, len(s), end, ok)
		}
	}
	if s, end, ok := Text(long, 0); len(s) != 65535 || end != 65537 || !ok {
		t.Errorf("the whole of it: %d bytes %d %v", len(s), end, ok)
	}
}

// P1.3: no place outside has a text.
func TestTextOutside(t *testing.T) {
	for _, n := range []int{0, 1, 2, 8} {
		b := make([]byte, n, n+16)
		for _, at := range append(farPlaces(), n-1, n, n+1) {
			if s, end, ok := Text(b, at); s != "" || end != 0 || ok {
				t.Errorf("%d bytes at %d: %q %d %v", n, at, s, end, ok)
			}
		}
	}
	if s, end, ok := Text([]byte{7, 0, 0}, 1); s != "" || end != 3 || !ok {
		t.Errorf("an empty text at the end: %q %d %v", s, end, ok)
	}
}

// P1.4: a number that is put behind is read there, and what stood ahead is as it was.
func TestNumbersFollow(t *testing.T) {
	for i, w := range writers() {
		r := readers()[i]
		var b []byte
		for _, v := range values() {
			more := w.add(b, v)
			if !bytes.Equal(more[:len(b)], b) || len(more) != len(b)+w.size {
				t.Fatalf("%s(.., %x): what stood ahead is not as it was", w.name, v)
			}
			want := said(low(v, w.size))
			if got, ok := r.read(more, len(b)); got != want || !ok {
				t.Fatalf("%s behind %s: %x %v, want %x", r.name, w.name, got, ok, want)
			}
			b = more
		}
		for k, v := range values() {
			if got, ok := r.read(b, k*w.size); got != said(low(v, w.size)) || !ok {
				t.Errorf("%s, the one with number %d: %x %v", r.name, k, got, ok)
			}
		}
	}
}

// P1.4: texts of any bytes, put one behind the other, are read one behind the other, up to the end.
func TestTextsFollow(t *testing.T) {
	texts := []string{"", "a", "", "\x00\x02", "\xff\xfe\x80", "grüße", strings.Repeat("\x00", 65535), "", strings.Repeat("\xff", 256), "end"}
	for i := range 256 {
		texts = append(texts, string([]byte{byte(i)}))
	}
	b := []byte{1, 2, 3}
	for _, s := range texts {
		more, e := AddText(b, s)
		if e != api.OK || !bytes.Equal(more[:len(b)], b) {
			t.Fatalf("AddText(.., %d bytes): error %d, or what stood ahead is not as it was", len(s), e)
		}
		b = more
	}
	at := 3
	for i, s := range texts {
		got, end, ok := Text(b, at)
		if got != s || end != at+2+len(s) || !ok {
			t.Fatalf("text %d: %d bytes, %d %v", i, len(got), end, ok)
		}
		at = end
	}
	if at != len(b) {
		t.Error("behind the last text:", at, "of", len(b))
	}
	if s, end, ok := Text(b, at); s != "" || end != 0 || ok {
		t.Errorf("behind the last text: %q %d %v", s, end, ok)
	}
}

// adders are all calls that put something behind a list.
func adders(t *testing.T) map[string]func(b []byte) []byte {
	m := map[string]func(b []byte) []byte{}
	for _, w := range writers() {
		m[w.name] = func(b []byte) []byte { return w.add(b, 0xf1e2d3c4b5a69788) }
	}
	for name, s := range map[string]string{"AddText, none": "", "AddText, short": "abc", "AddText, long": strings.Repeat("z", 65535)} {
		m[name] = func(b []byte) []byte {
			out, e := AddText(b, s)
			if e != api.OK {
				t.Error(name, e)
			}
			return out
		}
	}
	return m
}

// fillAll overwrites a list with its spare room.
func fillAll(b []byte, with byte) {
	b = b[:cap(b)]
	for i := range b {
		b[i] = with
	}
}

// R3: what is handed in to the calls that write is as it was, its spare room too, and what they answer is new.
func TestWritesLeaveWhatIsHandedIn(t *testing.T) {
	for name, add := range adders(t) {
		for _, n := range []int{0, 1, 10} {
			for _, room := range []int{0, 1, 8, 70000} {
				b, all := roomy(n, room, 3)
				before := bytes.Clone(all)
				one, two := add(b), add(b)
				if !bytes.Equal(all, before) {
					t.Fatalf("%s behind %d bytes with room for %d: what was handed in was changed", name, n, room)
				}
				want := bytes.Clone(one)
				fillAll(two, 0xcc)
				if !bytes.Equal(one, want) || !bytes.Equal(all, before) {
					t.Fatalf("%s behind %d bytes with room for %d: two answers, or one and what was handed in, share memory", name, n, room)
				}
				fillAll(all, 0xdd)
				if !bytes.Equal(one, want) {
					t.Fatalf("%s behind %d bytes with room for %d: an answer changes with what was handed in", name, n, room)
				}
			}
		}
	}
}

// R3: a call that is refused leaves what is handed in as it was, too.
func TestRefusedLeavesWhatIsHandedIn(t *testing.T) {
	b, all := roomy(10, 70000, 3)
	before := bytes.Clone(all)
	if out, e := AddText(b, strings.Repeat("z", 65536)); out != nil || e != api.ErrLong {
		t.Error(len(out), e)
	}
	if !bytes.Equal(all, before) {
		t.Error("what was handed in was changed")
	}
}

// R3: what is handed in to the calls that read is as it was, and a text that was read stays as it is when the list is changed.
func TestReadsLeaveWhatIsHandedIn(t *testing.T) {
	b, all := roomy(20, 16, 0)
	b[4], b[5] = 0, 3
	before := bytes.Clone(all)
	text, _, _ := Text(b, 4)
	want := string(before[6:9])
	for _, at := range append(farPlaces(), 0, 4, 12, 13, 17, 19, 20) {
		for _, r := range readers() {
			r.read(b, at)
		}
		Text(b, at)
	}
	if !bytes.Equal(all, before) {
		t.Error("what was handed in was changed")
	}
	fillAll(all, 0xdd)
	if text != want {
		t.Errorf("the text is now %q, was %q", text, want)
	}
}
