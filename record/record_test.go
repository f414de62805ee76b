package record

import (
	"bytes"
	"encoding/binary"
	"hash/crc32"
	"math"
	"math/bits"
	"slices"
	"testing"

	"conduit/api"
)

var castagnoli = crc32.MakeTable(crc32.Castagnoli)

// summed is a body behind its base and its right sum, by the library's rules, not by the layers below.
func summed(base int64, body []byte) []byte {
	out := binary.BigEndian.AppendUint64(nil, uint64(base))
	out = binary.BigEndian.AppendUint32(out, crc32.Checksum(body, castagnoli))
	return append(out, body...)
}

func signed(n int64) []byte { return binary.AppendVarint(nil, n) }

func number(n uint64) []byte { return binary.AppendUvarint(nil, n) }

func joined(parts ...[]byte) []byte { return bytes.Join(parts, nil) }

// ruled is the chapter's rule for bodies, by the library's numbers; nothing is asked of the batch.
func ruled(b api.Batch) []byte {
	out := joined(signed(b.Pid), signed(int64(b.Epoch)), signed(b.First), number(uint64(len(b.Records))))
	for _, r := range b.Records {
		out = append(append(out, number(uint64(len(r)))...), r...)
	}
	return out
}

// read is a second reader: it takes numbers of any form, and then asks whether the bytes are the ones that the rule puts.
func read(b []byte) (int64, api.Batch, bool) {
	if len(b) < 12 || len(b) > 60000 {
		return 0, api.Batch{}, false
	}
	rest := b[12:]
	var heads [3]int64
	for i := range heads {
		n, size := binary.Varint(rest)
		if size <= 0 {
			return 0, api.Batch{}, false
		}
		heads[i], rest = n, rest[size:]
	}
	count, size := binary.Uvarint(rest)
	if size <= 0 || count > 256 {
		return 0, api.Batch{}, false
	}
	rest = rest[size:]
	x := api.Batch{Pid: heads[0], Epoch: int(heads[1]), First: heads[2]}
	for range count {
		n, size := binary.Uvarint(rest)
		if size <= 0 || n > 1024 || int(n) > len(rest)-size {
			return 0, api.Batch{}, false
		}
		x.Records = append(x.Records, rest[size:size+int(n)])
		rest = rest[size+int(n):]
	}
	base := int64(binary.BigEndian.Uint64(b))
	return base, x, bytes.Equal(b, summed(base, ruled(x)))
}

func same(a, b api.Batch) bool {
	return a.Pid == b.Pid && a.Epoch == b.Epoch && a.First == b.First && slices.EqualFunc(a.Records, b.Records, bytes.Equal)
}

// row tells numbers without a pattern, always the same ones.
func row(seed uint64) func(below int) int {
	return func(below int) int {
		seed = seed*6364136223846793005 + 1442695040888963407
		return int((bits.Reverse64(seed) ^ seed>>7) % uint64(below))
	}
}

// pattern is a record in which neighbours differ, and that no other seed has.
func pattern(size, seed int) []byte {
	out := make([]byte, size)
	for i := range out {
		out[i] = byte(i*7 + i>>8 + seed*31)
	}
	return out
}

// filled is a batch of so many records of so many bytes.
func filled(count, size int) api.Batch {
	var b api.Batch
	for i := range count {
		b.Records = append(b.Records, pattern(size, i))
	}
	return b
}

// sized is a batch whose bytes, with the base and the sum, are so many.
func sized(t *testing.T, total int) api.Batch {
	t.Helper()
	var b api.Batch
	size := func() int { return 12 + len(ruled(b)) }
	add := func(size int) { b.Records = append(b.Records, pattern(size, len(b.Records))) }
	for size() < total-2400 {
		add(1000)
	}
	for size() < total-400 {
		add(200)
	}
	// A length of 128 and more takes two bytes.
	add(total - size() - 2)
	if size() != total {
		t.Fatal("no batch of", total, "bytes, but of", size())
	}
	return b
}

func refused(t *testing.T, what string, b []byte) {
	t.Helper()
	if base, x, e := Decode(b); base != 0 || x.Pid != 0 || x.Epoch != 0 || x.First != 0 || x.Records != nil || e != api.ErrRecord {
		t.Errorf("%s: base %d, batch %v, error %d", what, base, x, e)
	}
}

func notEncoded(t *testing.T, what string, base int64, b api.Batch, want api.Errno) {
	t.Helper()
	if out, e := Encode(base, b); out != nil || e != want {
		t.Errorf("%s: %d bytes, error %d", what, len(out), e)
	}
}

// around holds one batch against the rule, both ways.
func around(t *testing.T, what string, base int64, b api.Batch) []byte {
	t.Helper()
	if !Right(b) {
		t.Errorf("%s: not right", what)
	}
	out, e := Encode(base, b)
	if want := summed(base, ruled(b)); e != api.OK || !bytes.Equal(out, want) {
		t.Fatalf("%s: %x, error %d, not %x", what, out, e, want)
	}
	back, x, e := Decode(out)
	if e != api.OK || back != base || !same(x, b) {
		t.Fatalf("%s: base %d, batch %v, error %d", what, back, x, e)
	}
	if again, e := Encode(back, x); e != api.OK || !bytes.Equal(again, out) {
		t.Fatalf("%s: again %x, error %d", what, again, e)
	}
	return out
}

// Chapter 5, example 1.
func TestExampleBytes(t *testing.T) {
	got := around(t, "of one record", 7, api.Batch{Pid: 1, Epoch: 0, First: 2, Records: [][]byte{[]byte("a")}})
	body := []byte{2, 0, 4, 1, 1, 0x61}
	sum := binary.BigEndian.AppendUint32(nil, crc32.Checksum(body, castagnoli))
	if want := joined([]byte{0, 0, 0, 0, 0, 0, 0, 7}, sum, body); !bytes.Equal(got, want) {
		t.Errorf("%x", got)
	}
	got = around(t, "of none", 0, api.Batch{})
	sum = binary.BigEndian.AppendUint32(nil, crc32.Checksum(make([]byte, 4), castagnoli))
	if want := joined(make([]byte, 8), sum, make([]byte, 4)); !bytes.Equal(got, want) {
		t.Errorf("%x", got)
	}
}

// Chapter 5, example 2.
func TestExampleRefusals(t *testing.T) {
	notEncoded(t, "257 records", 0, filled(257, 0), api.ErrArg)
	notEncoded(t, "1025 bytes", 0, filled(1, 1025), api.ErrArg)
	notEncoded(t, "100 of 1024 bytes", 0, filled(100, 1024), api.ErrLong)
	b, _ := Encode(7, api.Batch{Pid: 1, First: 2, Records: [][]byte{[]byte("a")}})
	refused(t, "one behind", append(bytes.Clone(b), 0))
	refused(t, "one less", b[:len(b)-1])
	refused(t, "the last one changed", append(bytes.Clone(b[:len(b)-1]), 'b'))
}

// P5.1: how many records, and how long, at each edge.
func TestRight(t *testing.T) {
	for _, c := range []struct {
		count, size int
		right       bool
	}{
		{0, 0, true}, {1, 0, true}, {1, 1, true}, {1, 1023, true}, {1, 1024, true}, {1, 1025, false}, {1, 2048, false}, {1, 70000, false},
		{255, 0, true}, {256, 0, true}, {256, 1024, true}, {256, 1025, false}, {257, 0, false}, {257, 1, false}, {257, 1025, false}, {512, 0, false}, {70000, 0, false},
	} {
		if got := Right(filled(c.count, c.size)); got != c.right {
			t.Error(c.count, c.size, got)
		}
	}
	for at := range 256 {
		b := filled(256, 3)
		b.Records[at] = pattern(1024, 1)
		if !Right(b) {
			t.Error("1024 bytes at", at)
		}
		b.Records[at] = pattern(1025, 1)
		if Right(b) {
			t.Error("1025 bytes at", at)
		}
		notEncoded(t, "1025 bytes", 5, b, api.ErrArg)
	}
	for _, n := range extremes {
		b := api.Batch{Pid: n, Epoch: int(n), First: n}
		if !Right(b) {
			t.Error(n)
		}
		b.Records = make([][]byte, 257)
		if Right(b) {
			t.Error(n, "257 records")
		}
	}
}

// P5.1: what is not right is ErrArg, too long or not.
func TestNotRightAndTooLong(t *testing.T) {
	notEncoded(t, "257 of 1024", 1, filled(257, 1024), api.ErrArg)
	notEncoded(t, "257 of none", -1, filled(257, 0), api.ErrArg)
	notEncoded(t, "256 of 1025", 1, filled(256, 1025), api.ErrArg)
	notEncoded(t, "one of 60000", 1, filled(1, 60000), api.ErrArg)
	notEncoded(t, "one of 70000", 1, filled(1, 70000), api.ErrArg)
	b := filled(100, 1024)
	b.Records[99] = pattern(1025, 1)
	notEncoded(t, "100, the last of 1025", 1, b, api.ErrArg)
	notEncoded(t, "256 of 1024", 1, filled(256, 1024), api.ErrLong)
	notEncoded(t, "59 of 1024", 1, filled(59, 1024), api.ErrLong)
}

// P5.1 and P5.3: ordinary batches.
func TestCounts(t *testing.T) {
	for _, count := range []int{0, 1, 2, 3, 10, 127, 128, 129, 200, 255, 256} {
		for _, size := range []int{0, 1, 2, 100, 127, 128, 129, 200} {
			around(t, "filled", int64(count*size), filled(count, size))
		}
	}
	for size := range 1025 {
		around(t, "one of each size", int64(size), filled(1, size))
	}
	var mixed api.Batch
	for size := 0; size < 300; size += 7 {
		mixed.Records = append(mixed.Records, pattern(size, 1), nil, []byte{}, pattern(1, size))
	}
	around(t, "mixed", 9, mixed)
}

// P5.1 and P5.2: exactly MaxData bytes, one less, and more.
func TestTheLongest(t *testing.T) {
	for _, total := range []int{59998, 59999, 60000} {
		if got := around(t, "the longest", 3, sized(t, total)); len(got) != total {
			t.Error(total, len(got))
		}
	}
	for _, total := range []int{60001, 60002, 60003, 60100, 61024, 65536, 65537, 70000} {
		b := sized(t, total)
		if !Right(b) {
			t.Error(total, "not right")
		}
		notEncoded(t, "too long", 3, b, api.ErrLong)
		refused(t, "too long", summed(3, ruled(b)))
	}
	// The numbers count, too: each takes from 1 to 10 bytes.
	b := sized(t, 60000-27)
	b.Pid, b.Epoch, b.First = math.MinInt64, math.MinInt, math.MaxInt64
	if bits.UintSize == 64 {
		if got := around(t, "the longest numbers", 3, b); len(got) != 60000 {
			t.Error(len(got))
		}
		b = sized(t, 60001-27)
		b.Pid, b.Epoch, b.First = math.MaxInt64, math.MaxInt, math.MinInt64
		notEncoded(t, "the longest numbers", 3, b, api.ErrLong)
		refused(t, "the longest numbers", summed(3, ruled(b)))
	}
}

var extremes = []int64{
	math.MinInt64, math.MinInt64 + 1, -1 << 62, math.MinInt32 - 1, math.MinInt32, -65537, -8193, -8192, -129, -128, -65, -64, -63, -2, -1,
	0, 1, 2, 63, 64, 65, 127, 128, 255, 256, 8191, 8192, 65535, 65536, math.MaxInt32, math.MaxInt32 + 1, 1 << 40, 1 << 62, math.MaxInt64 - 1, math.MaxInt64,
}

// P5.1 and P5.3: any base, Pid, Epoch, First, each by itself and together.
func TestNumbers(t *testing.T) {
	for _, records := range [][][]byte{nil, {nil}, {{1, 2}, {3}}} {
		for _, n := range extremes {
			around(t, "base", n, api.Batch{Records: records})
			around(t, "Pid", 0, api.Batch{Pid: n, Records: records})
			around(t, "Epoch", 0, api.Batch{Epoch: int(n), Records: records})
			around(t, "First", 0, api.Batch{First: n, Records: records})
			for _, m := range extremes {
				around(t, "all", n, api.Batch{Pid: m, Epoch: int(n), First: ^m, Records: records})
			}
		}
	}
	for _, epoch := range []int{math.MinInt, math.MaxInt} {
		around(t, "Epoch", math.MinInt64, api.Batch{Pid: math.MaxInt64, Epoch: epoch, First: math.MinInt64})
	}
	got, e := Encode(-2, api.Batch{})
	if e != api.OK || !bytes.Equal(got[:8], []byte{0xFF, 0xFF, 0xFF, 0xFF, 0xFF, 0xFF, 0xFF, 0xFE}) {
		t.Errorf("%x %d", got, e)
	}
	got, e = Encode(math.MinInt64, api.Batch{})
	if e != api.OK || !bytes.Equal(got[:8], []byte{0x80, 0, 0, 0, 0, 0, 0, 0}) {
		t.Errorf("%x %d", got, e)
	}
}

// some are batches of all kinds, none long.
func some() []api.Batch {
	return []api.Batch{
		{},
		{Pid: 1, First: 2, Records: [][]byte{[]byte("a")}},
		{Pid: -1, Epoch: 64, First: -65, Records: [][]byte{nil, {}, {0}}},
		{Pid: math.MinInt64, Epoch: math.MaxInt32, First: math.MaxInt64, Records: [][]byte{{0xFF}}},
		{Pid: 300, Epoch: 3, First: 1 << 40, Records: [][]byte{pattern(130, 1), pattern(3, 2)}},
		{Records: make([][]byte, 130)},
	}
}

// P5.2: bytes that end too early, and bytes behind.
func TestCutAndBehind(t *testing.T) {
	refused(t, "none", nil)
	refused(t, "none", []byte{})
	for n := range 40 {
		refused(t, "noughts", make([]byte, n))
	}
	for i, b := range some() {
		whole := summed(int64(i), ruled(b))
		body := ruled(b)
		for at := range whole {
			refused(t, "cut", whole[:at])
		}
		for at := range body {
			refused(t, "cut, with a sum that is right", summed(int64(i), body[:at]))
			againstRead(t, "one left out, with a sum that is right", summed(int64(i), joined(body[:at], body[at+1:])))
		}
		for octet := range 256 {
			refused(t, "one behind", joined(whole, []byte{byte(octet)}))
			refused(t, "one behind, with a sum that is right", summed(int64(i), joined(body, []byte{byte(octet)})))
		}
		refused(t, "twice", joined(whole, whole))
		refused(t, "twice, with a sum that is right", summed(1, joined(body, body)))
		refused(t, "one ahead", joined([]byte{0}, whole))
	}
	for _, total := range []int{59000, 60000} {
		whole := summed(1, ruled(sized(t, total)))
		refused(t, "the longest, one less", whole[:total-1])
		refused(t, "the longest, one less, with a sum that is right", summed(1, whole[12:total-1]))
		refused(t, "the longest, one behind, with a sum that is right", summed(1, joined(whole[12:], []byte{0})))
	}
}

// P5.2 and P5.3: each byte, changed to each other one: a base is another base, all else is refused.
func TestEachByteChanged(t *testing.T) {
	for _, b := range some() {
		whole := summed(77, ruled(b))
		for at := range whole {
			for by := 1; by < 256; by++ {
				x := bytes.Clone(whole)
				x[at] ^= byte(by)
				if at >= 8 {
					refused(t, "a byte changed", x)
				} else if base, got, e := Decode(x); e != api.OK || uint64(base) != 77^uint64(by)<<(56-8*at) || !same(got, b) {
					t.Fatal(at, by, base, got, e)
				}
			}
		}
	}
}

// P5.3: changes within four bytes next to each other, in the sum or in what it is of.
func TestFourBytesChanged(t *testing.T) {
	next := row(5)
	for i, b := range append(some(), filled(20, 100), sized(t, 3000)) {
		whole := summed(int64(i), ruled(b))
		for at := 8; at < len(whole); at++ {
			end := len(whole)
			if at < 12 {
				end = 12
			}
			for range max(5, 5000/len(whole)) {
				x := bytes.Clone(whole)
				for k := at; k < min(at+4, end); k++ {
					x[k] ^= byte(next(256))
				}
				if !bytes.Equal(x, whole) {
					refused(t, "four bytes changed", x)
				}
			}
		}
	}
}

// P5.2 where P5.3 can't hold: a change that lies across the sum and what it is of may make the bytes of another batch. Those are told, all others refused.
func TestChangesAcrossTheSum(t *testing.T) {
	next := row(6)
	for i, b := range append(some(), filled(20, 100)) {
		whole := summed(int64(i), ruled(b))
		for at := 9; at < 12; at++ {
			for range 5000 {
				x := bytes.Clone(whole)
				for k := at; k < at+4; k++ {
					x[k] ^= byte(next(256))
				}
				againstRead(t, "across the sum", x)
			}
		}
	}
	one := summed(0, ruled(api.Batch{Pid: 1, Records: [][]byte{[]byte("abcde")}}))
	other := summed(0, ruled(api.Batch{Pid: -14, Records: [][]byte{[]byte("abcde")}}))
	if one[8] != other[8] || !bytes.Equal(one[13:], other[13:]) {
		t.Errorf("%x and %x are not so near", one, other)
	}
	for _, b := range [][]byte{one, other} {
		if _, _, e := Decode(b); e != api.OK {
			t.Errorf("%x: %d", b, e)
		}
	}
}

// againstRead holds Decode against the second reader.
func againstRead(t *testing.T, what string, b []byte) bool {
	t.Helper()
	base, x, ok := read(b)
	if !ok {
		refused(t, what, b)
		return false
	}
	if got, y, e := Decode(b); e != api.OK || got != base || !same(x, y) {
		t.Errorf("%s: %x: base %d, batch %v, error %d", what, b, got, y, e)
	}
	if again, e := Encode(base, x); e != api.OK || !bytes.Equal(again, b) {
		t.Errorf("%s: %x: again %x, error %d", what, b, again, e)
	}
	return true
}

// longer are the forms of a number that have more bytes than its own: noughts behind.
func longer(n []byte) [][]byte {
	var out [][]byte
	for more := 1; len(n)+more <= 12; more++ {
		x := bytes.Clone(n)
		x[len(x)-1] |= 0x80
		for range more - 1 {
			x = append(x, 0x80)
		}
		out = append(out, append(x, 0))
	}
	return out
}

// P5.2: numbers that take more bytes than they need, at each of the places, with a sum that is right.
func TestLongNumbers(t *testing.T) {
	parts := [][]byte{signed(1), signed(-70), signed(1 << 40), number(2), number(0), number(130), pattern(130, 1)}
	if _, x, e := Decode(summed(4, joined(parts...))); e != api.OK || len(x.Records) != 2 {
		t.Fatal(x, e)
	}
	for at := range parts[:6] {
		for _, form := range longer(parts[at]) {
			changed := slices.Clone(parts)
			changed[at] = form
			refused(t, "a long number", summed(4, joined(changed...)))
		}
	}
	for at := range 4 {
		noughts := [][]byte{{0}, {0}, {0}, {0}}
		for _, form := range longer(noughts[at]) {
			noughts[at] = form
			refused(t, "a long nought", summed(0, joined(noughts...)))
		}
	}
}

// over are bytes of numbers of 64 bits and more; the first two do not fit by one bit.
func over() [][]byte {
	ff := bytes.Repeat([]byte{0xFF}, 9)
	no := bytes.Repeat([]byte{0x80}, 9)
	return [][]byte{
		joined(ff, []byte{2}), joined(no, []byte{2}), joined(ff, []byte{3}), joined(no, []byte{4}), joined(ff, []byte{0x7F}), joined(no, []byte{0x40}),
		joined(ff, []byte{0x81, 0}), joined(ff, []byte{0x81, 1}), joined(no, []byte{0x80, 1}), joined(ff, ff, []byte{1}), joined(no, no, no, []byte{1}), bytes.Repeat([]byte{0xFF}, 200),
	}
}

// P5.2: a Pid, Epoch, First, count or length that does not fit.
func TestNumbersThatDoNotFit(t *testing.T) {
	for at := range 5 {
		for _, form := range over() {
			parts := [][]byte{signed(1), signed(2), signed(3), number(1), number(1), {9}}
			parts[at] = form
			refused(t, "too great a number", summed(4, joined(parts...)))
			refused(t, "too great a number at the end", summed(4, joined(parts[:at+1]...)))
		}
	}
	greatest := joined(bytes.Repeat([]byte{0xFF}, 9), []byte{1})
	for at := range 3 {
		parts := [][]byte{signed(1), signed(2), signed(3), number(1), number(1), {9}}
		parts[at] = greatest
		_, x, e := Decode(summed(4, joined(parts...)))
		if at == 1 && bits.UintSize < 64 {
			if e != api.ErrRecord {
				t.Error("an epoch that does not fit", x, e)
			}
		} else if e != api.OK || []int64{x.Pid, int64(x.Epoch), x.First}[at] != math.MinInt64 {
			t.Error(at, x, e)
		}
	}
}

// P5.2: counts that say more than is there, or less, or more than may be, with a sum that is right.
func TestCountsThatAreWrong(t *testing.T) {
	wrong := []uint64{2, 3, 255, 256, 257, 258, 512, 1 << 16, 1<<31 - 1, 1 << 31, 1 << 32, 1<<32 + 1, 1<<63 - 1, 1 << 63, 1<<63 + 1, math.MaxUint64 - 1, math.MaxUint64}
	for _, count := range wrong {
		refused(t, "a count, and one record", summed(1, joined(make([]byte, 3), number(count), []byte{1, 9})))
		refused(t, "a count, and nothing", summed(1, joined(make([]byte, 3), number(count))))
	}
	for _, there := range []int{0, 1, 2, 255, 256, 257, 258, 300, 512} {
		records := make([]byte, there)
		for _, count := range []int{0, 1, 2, 254, 255, 256, 257, 258, 300, 512} {
			b := summed(1, joined(make([]byte, 3), number(uint64(count)), records))
			if count != there || count > 256 {
				refused(t, "a count", b)
			} else if !againstRead(t, "a count", b) {
				t.Error(count, "refused")
			}
		}
	}
	refused(t, "a count of 257 of one byte", summed(1, ruled(filled(257, 1))))
	refused(t, "a count of 257 of 200 bytes", summed(1, ruled(filled(257, 200))))
}

// P5.2: lengths likewise, of the first record, of one between, of the last.
func TestLengthsThatAreWrong(t *testing.T) {
	wrong := []uint64{4, 5, 127, 128, 1023, 1024, 1025, 1 << 16, 1<<31 - 1, 1 << 31, 1 << 32, 1<<32 + 3, 1<<63 - 1, 1 << 63, 1<<63 + 3, math.MaxUint64 - 2, math.MaxUint64 - 1, math.MaxUint64}
	for _, size := range wrong {
		for count := 1; count <= 3; count++ {
			head := joined(make([]byte, 3), number(uint64(count)))
			for range count - 1 {
				head = joined(head, []byte{1, 9})
			}
			refused(t, "a length, and three bytes", summed(1, joined(head, number(size), []byte{1, 2, 3})))
			refused(t, "a length, and nothing", summed(1, joined(head, number(size))))
		}
	}
	for _, size := range []int{1025, 1026, 2048, 50000} {
		refused(t, "one too long", summed(1, ruled(filled(1, size))))
		refused(t, "one too long behind another", summed(1, ruled(api.Batch{Records: [][]byte{{1}, pattern(size, 1)}})))
		refused(t, "one too long ahead of another", summed(1, ruled(api.Batch{Records: [][]byte{pattern(size, 1), {1}}})))
	}
	for said := range 8 {
		b := summed(1, joined(make([]byte, 3), number(1), number(uint64(said)), []byte{5, 6, 7}))
		if got := againstRead(t, "a length", b); got != (said == 3) {
			t.Error(said, got)
		}
	}
}

// P5.2: short bodies of all kinds, with a sum that is right, against the second reader.
func TestBodiesOfAllKinds(t *testing.T) {
	next := row(7)
	kinds := []byte{0, 0, 0, 1, 1, 2, 3, 4, 0x7F, 0x80, 0x81, 0xFF}
	told := 0
	for range 200000 {
		body := make([]byte, next(16))
		for i := range body {
			body[i] = kinds[next(len(kinds))]
		}
		if againstRead(t, "a body", summed(int64(next(9)), body)) {
			told++
		}
	}
	if told < 1000 {
		t.Error("only", told, "were batches")
	}
	batches := some()
	for range 50000 {
		body := ruled(batches[next(len(batches))])
		body[next(len(body))] = kinds[next(len(kinds))]
		againstRead(t, "a body with a byte changed", summed(1, body))
	}
}

// P5.2: a sum that is not right refuses whatever stands behind it.
func TestSumThatIsWrong(t *testing.T) {
	for i, b := range some() {
		whole := summed(int64(i), ruled(b))
		for bit := range 32 {
			x := bytes.Clone(whole)
			x[8+bit/8] ^= 1 << (bit % 8)
			refused(t, "a bit of the sum", x)
		}
		turned := bytes.Clone(whole)
		slices.Reverse(turned[8:12])
		refused(t, "the sum, lowest byte first", turned)
		all := bytes.Clone(whole)
		binary.BigEndian.PutUint32(all[8:], crc32.Checksum(joined(whole[:8], whole[12:]), castagnoli))
		refused(t, "the sum with the base", all)
	}
}

// roomy is b with spare room of a kind that is known.
func roomy(b []byte) []byte {
	out := append(make([]byte, 0, len(b)+40), b...)
	for i := range out[len(b):cap(out)] {
		out[len(b) : len(b)+40][i] = 0xA5
	}
	return out
}

func unchangedRoom(b []byte) bool {
	for _, octet := range b[len(b):cap(b)] {
		if octet != 0xA5 {
			return false
		}
	}
	return true
}

// R3: what Encode is handed is as it was, its spare room too, and is not kept.
func TestEncodeLeavesWhatItIsHanded(t *testing.T) {
	for _, sizes := range [][]int{{}, {0}, {3, 0, 1024}, {1025}, {1, 2, 3}, slices.Repeat([]int{1024}, 100), make([]int, 257)} {
		records := make([][]byte, 0, len(sizes)+3)
		for i, size := range sizes {
			records = append(records, roomy(pattern(size, i)))
		}
		room := records[len(records) : len(records)+3]
		room[0], room[1], room[2] = []byte{1}, []byte{2}, []byte{3}
		b := api.Batch{Pid: 5, Epoch: 6, First: 7, Records: records}
		right := Right(b)
		one, e := Encode(9, b)
		two, _ := Encode(9, b)
		if right != (e != api.ErrArg) {
			t.Error(right, e)
		}
		if len(b.Records) != len(sizes) || !slices.EqualFunc(room, [][]byte{{1}, {2}, {3}}, bytes.Equal) {
			t.Error("the list or its spare room was changed")
		}
		for i, r := range records {
			if !bytes.Equal(r, pattern(sizes[i], i)) || !unchangedRoom(r) {
				t.Error("a record or its spare room was changed")
			}
			clear(r[:cap(r)])
		}
		clear(records[:cap(records)])
		if !bytes.Equal(one, two) {
			t.Error("two answers differ")
		}
		clear(one[:cap(one)])
		if e == api.OK && !againstRead(t, "behind the changes", two) {
			t.Error("what was answered was changed")
		}
	}
}

// R3: what Decode is handed is as it was, its spare room too, and is not kept.
func TestDecodeLeavesWhatItIsHanded(t *testing.T) {
	for i, b := range append(some(), filled(256, 3), sized(t, 60000)) {
		clean := summed(int64(i), ruled(b))
		for _, given := range [][]byte{roomy(clean), roomy(clean[:len(clean)-1]), roomy(joined(clean, []byte{0}))} {
			was := bytes.Clone(given)
			_, x, e := Decode(given)
			if !bytes.Equal(given, was) || !unchangedRoom(given) {
				t.Error("the bytes or their spare room were changed")
			}
			clear(given[:cap(given)])
			if e == api.OK && !same(x, b) {
				t.Error("what was answered was changed")
			}
		}
	}
}

// R3: no two lists of answers share memory, spare room too; a change of one is seen in no other.
func TestAnswersShareNothing(t *testing.T) {
	for i, b := range append(some(), filled(256, 3), filled(50, 1024)) {
		whole := summed(int64(i), ruled(b))
		_, one, _ := Decode(whole)
		_, two, _ := Decode(whole)
		all := append(slices.Clone(one.Records), two.Records...)
		for k, r := range all {
			all := append(slices.Clone(all[:k]), all[k+1:]...)
			was := make([][]byte, len(all))
			for j := range all {
				was[j] = bytes.Clone(all[j][:cap(all[j])])
			}
			for j := range r[:cap(r)] {
				r[:cap(r)][j] ^= 0x5A
			}
			for j := range all {
				if !bytes.Equal(was[j], all[j][:cap(all[j])]) {
					t.Fatal("records share memory")
				}
			}
			for j := range r[:cap(r)] {
				r[:cap(r)][j] ^= 0x5A
			}
		}
		clear(one.Records[:cap(one.Records)])
		if !same(two, b) || !bytes.Equal(whole, summed(int64(i), ruled(b))) {
			t.Error("lists of records share memory")
		}
	}
}

// R4: a call's answer hangs on its arguments alone.
func TestAgain(t *testing.T) {
	b := some()[1]
	first, _ := Encode(1, b)
	Encode(2, filled(257, 0))
	Encode(3, filled(100, 1024))
	Decode(first[:14])
	Decode(summed(9, []byte{0x80}))
	if again, e := Encode(1, b); e != api.OK || !bytes.Equal(first, again) {
		t.Errorf("%x %d", again, e)
	}
	if base, x, e := Decode(first); base != 1 || !same(x, b) || e != api.OK {
		t.Error(base, x, e)
	}
}

// R6: an empty list and none are the same.
func TestNoneAndEmpty(t *testing.T) {
	for _, pair := range [][2][][]byte{{nil, {}}, {{nil}, {{}}}, {{{1}, nil}, {{1}, {}}}} {
		a, _ := Encode(1, api.Batch{Records: pair[0]})
		b, _ := Encode(1, api.Batch{Records: pair[1]})
		if len(a) == 0 || !bytes.Equal(a, b) {
			t.Errorf("%x and %x", a, b)
		}
	}
}
