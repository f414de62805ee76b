package sums

import (
	"bytes"
	"hash/crc32"
	"math/bits"
	"slices"
	"testing"
)

// remainder is the chapter's rule bit by bit on a list of truths, from the register that sum was told from.
func remainder(sum uint32, b []byte) uint32 {
	var register [32]bool
	for i := range register {
		register[i] = sum>>i&1 == 0
	}
	for _, octet := range b {
		for i := range 8 {
			unlike := register[0] != (octet>>i&1 == 1)
			copy(register[:], register[1:])
			register[31] = false
			for j := range register {
				if unlike && uint32(0x82F63B78)>>j&1 == 1 {
					register[j] = !register[j]
				}
			}
		}
	}
	var out uint32
	for i := range register {
		if !register[i] {
			out |= 1 << i
		}
	}
	return out
}

// library is the same sum by another package's rule; it is quick enough for long lists.
func library(sum uint32, b []byte) uint32 {
	return crc32.Update(sum, crc32.MakeTable(crc32.Castagnoli), b)
}

// numbers tells a row of numbers without a pattern, always the same.
func numbers(seed uint32) func() uint32 {
	return func() uint32 {
		seed = seed*1664525 + 1013904223
		return bits.Reverse32(seed) ^ seed>>3
	}
}

func octetsOf(seed uint32, size int) []byte {
	next := numbers(seed)
	out := make([]byte, size)
	for i := range out {
		out[i] = byte(next())
	}
	return out
}

func counted(size int) []byte {
	out := make([]byte, size)
	for i := range out {
		out[i] = byte(i)
	}
	return out
}

// someSums are sums to go on from: the edges, each bit alone, and some without a pattern.
func someSums() []uint32 {
	out := []uint32{0, 0xFFFFFFFF, 0x7FFFFFFF, 0xFFFFFFFE, 0x82F63B78, ^uint32(0x82F63B78), 0xE3069283, 0x55555555, 0xAAAAAAAA}
	for i := range 32 {
		out = append(out, 1<<i)
	}
	next := numbers(5)
	for range 50 {
		out = append(out, next())
	}
	return out
}

// P2.1: the chapter's examples.

func TestExamples(t *testing.T) {
	cases := []struct {
		name string
		b    []byte
		want uint32
	}{
		{"none", nil, 0},
		{"an empty list", []byte{}, 0},
		{"the digits 1 to 9", []byte{0x31, 0x32, 0x33, 0x34, 0x35, 0x36, 0x37, 0x38, 0x39}, 0xE3069283},
		{"32 bytes 00", make([]byte, 32), 0x8A9136AA},
		{"32 bytes FF", bytes.Repeat([]byte{0xFF}, 32), 0x62A8AB43},
		{"00 01 .. 1F", counted(32), 0x46DD794E},
	}
	for _, c := range cases {
		if got := Crc(c.b); got != c.want {
			t.Errorf("Crc of %s: %08X, want %08X", c.name, got, c.want)
		}
	}
	if got := More(Crc([]byte{0x31, 0x32, 0x33, 0x34}), []byte{0x35, 0x36, 0x37, 0x38, 0x39}); got != 0xE3069283 {
		t.Errorf("More behind 1234: %08X", got)
	}
}

// P2.1: Crc is the remainder.

func TestCrcOfOneByte(t *testing.T) {
	told := map[uint32]int{}
	for v := range 256 {
		b := []byte{byte(v)}
		got := Crc(b)
		if want := remainder(0, b); got != want {
			t.Errorf("Crc of %02X: %08X, want %08X", v, got, want)
		}
		if other, ok := told[got]; ok {
			t.Errorf("%02X and %02X have one sum", v, other)
		}
		told[got] = v
	}
}

func TestCrcOfShortLists(t *testing.T) {
	for size := range 130 {
		for _, b := range [][]byte{make([]byte, size), bytes.Repeat([]byte{0xFF}, size), counted(size), octetsOf(uint32(size), size)} {
			if got, want := Crc(b), remainder(0, b); got != want {
				t.Fatalf("Crc of % X: %08X, want %08X", b, got, want)
			}
		}
	}
}

func TestCrcOfLongLists(t *testing.T) {
	for _, size := range []int{255, 256, 257, 1023, 1024, 4095, 4096, 4097, 65535, 65536, 65537, 1<<20 + 3} {
		for _, b := range [][]byte{make([]byte, size), octetsOf(uint32(size), size)} {
			if got, want := Crc(b), library(0, b); got != want {
				t.Errorf("Crc of %d bytes: %08X, want %08X", size, got, want)
			}
		}
	}
}

// P2.1: More begins with any sum.

func TestMoreOfNone(t *testing.T) {
	for _, sum := range someSums() {
		if got := More(sum, nil); got != sum {
			t.Errorf("More(%08X, none) = %08X", sum, got)
		}
		if got := More(sum, []byte{}); got != sum {
			t.Errorf("More(%08X, an empty list) = %08X", sum, got)
		}
	}
}

func TestMoreFromAnySum(t *testing.T) {
	for _, sum := range someSums() {
		for _, size := range []int{1, 2, 3, 4, 5, 8, 31, 64} {
			for _, b := range [][]byte{make([]byte, size), bytes.Repeat([]byte{0xFF}, size), octetsOf(uint32(size), size)} {
				if got, want := More(sum, b), remainder(sum, b); got != want {
					t.Fatalf("More(%08X, % X) = %08X, want %08X", sum, b, got, want)
				}
			}
		}
	}
}

func TestMoreOfEachByte(t *testing.T) {
	for _, sum := range someSums() {
		for v := range 256 {
			b := []byte{byte(v)}
			if got, want := More(sum, b), remainder(sum, b); got != want {
				t.Fatalf("More(%08X, %02X) = %08X, want %08X", sum, v, got, want)
			}
		}
	}
}

func TestMoreOfLongLists(t *testing.T) {
	b := octetsOf(77, 70001)
	for _, sum := range []uint32{0, 1, 0x80000000, 0xFFFFFFFF, 0x12345678} {
		if got, want := More(sum, b), library(sum, b); got != want {
			t.Errorf("More(%08X, %d bytes) = %08X, want %08X", sum, len(b), got, want)
		}
	}
}

// P2.1: a list may be cut anywhere.

func TestMoreBehindEveryCut(t *testing.T) {
	for _, b := range [][]byte{nil, {7}, make([]byte, 40), bytes.Repeat([]byte{0xFF}, 40), counted(256), octetsOf(3, 200)} {
		whole := Crc(b)
		for cut := range len(b) + 1 {
			if got := More(Crc(b[:cut]), b[cut:]); got != whole {
				t.Fatalf("cut at %d of %d: %08X, want %08X", cut, len(b), got, whole)
			}
		}
	}
}

func TestMoreBehindTwoCuts(t *testing.T) {
	b := octetsOf(4, 40)
	for _, sum := range []uint32{0, 0xFFFFFFFF, 0x0BADCAFE} {
		whole := More(sum, b)
		for first := range len(b) + 1 {
			for second := first; second <= len(b); second++ {
				if got := More(More(More(sum, b[:first]), b[first:second]), b[second:]); got != whole {
					t.Fatalf("from %08X, cut at %d and %d: %08X, want %08X", sum, first, second, got, whole)
				}
			}
		}
	}
}

func TestMoreByteByByte(t *testing.T) {
	b := octetsOf(6, 5000)
	var sum uint32
	for i := range b {
		sum = More(sum, b[i:i+1])
	}
	if sum != Crc(b) {
		t.Errorf("byte by byte %08X, at once %08X", sum, Crc(b))
	}
}

// P2.2: More from 0 on is Crc.

func TestMoreFromNought(t *testing.T) {
	for _, size := range []int{0, 1, 2, 3, 4, 63, 64, 65, 1000, 66000} {
		b := octetsOf(uint32(size)+9, size)
		if More(0, b) != Crc(b) {
			t.Errorf("%d bytes: More(0, b) = %08X, Crc(b) = %08X", size, More(0, b), Crc(b))
		}
	}
}

// P2.2: three lists as long, held against each other.

func TestThreeListsHeldAgainstEachOther(t *testing.T) {
	for _, size := range []int{0, 1, 2, 3, 4, 5, 7, 8, 16, 33, 100, 4096} {
		for seed := range uint32(20) {
			a, b, c := octetsOf(seed, size), octetsOf(seed+100, size), octetsOf(seed+200, size)
			held := make([]byte, size)
			for i := range held {
				held[i] = a[i] ^ b[i] ^ c[i]
			}
			if got, want := Crc(held), Crc(a)^Crc(b)^Crc(c); got != want {
				t.Fatalf("%d bytes, row %d: %08X, want %08X", size, seed, got, want)
			}
		}
	}
}

// P2.2: a change within four bytes next to each other.

func changed(b []byte, at int, change []byte) []byte {
	out := bytes.Clone(b)
	for i, c := range change {
		out[at+i] ^= c
	}
	return out
}

func TestOneByteChanged(t *testing.T) {
	b := octetsOf(11, 60)
	for at := range b {
		for v := 1; v < 256; v++ {
			if Crc(changed(b, at, []byte{byte(v)})) == Crc(b) {
				t.Fatalf("%02X at %d changes nothing", v, at)
			}
		}
	}
}

func TestTwoBytesChanged(t *testing.T) {
	b := octetsOf(12, 9)
	for _, at := range []int{0, 3, 7} {
		for v := 1; v < 1<<16; v++ {
			if Crc(changed(b, at, []byte{byte(v >> 8), byte(v)})) == Crc(b) {
				t.Fatalf("%04X at %d changes nothing", v, at)
			}
		}
	}
}

func TestFourBytesChanged(t *testing.T) {
	next := numbers(13)
	for _, b := range [][]byte{make([]byte, 4), bytes.Repeat([]byte{0xFF}, 30), octetsOf(14, 100)} {
		for at := range len(b) - 3 {
			changes := []uint32{0xFFFFFFFF, 0x80000001, 0x01000080, 0x82F63B78, 0x783BF682, 0x1EDC6F41, 0x00FFFF00}
			for range 100 {
				changes = append(changes, next()|1)
			}
			for _, v := range changes {
				if Crc(changed(b, at, []byte{byte(v >> 24), byte(v >> 16), byte(v >> 8), byte(v)})) == Crc(b) {
					t.Fatalf("%08X at %d of %d changes nothing", v, at, len(b))
				}
			}
		}
	}
}

// independent says whether no xor of some of the numbers, one at least, is 0.
func independent(of []uint32) bool {
	var led [32]uint32
	for _, v := range of {
		for v != 0 && led[31-bits.LeadingZeros32(v)] != 0 {
			v ^= led[31-bits.LeadingZeros32(v)]
		}
		if v == 0 {
			return false
		}
		led[31-bits.LeadingZeros32(v)] = v
	}
	return true
}

// With the promise on three lists, this says that each of the 2^32 - 1 changes of the four bytes is seen.
func TestEveryChangeOfFourBytes(t *testing.T) {
	for _, size := range []int{4, 5, 20, 500} {
		b := octetsOf(uint32(size), size)
		for at := range size - 3 {
			var seen []uint32
			for bit := range 32 {
				change := make([]byte, 4)
				change[bit/8] = 1 << (bit % 8)
				seen = append(seen, Crc(b)^Crc(changed(b, at, change)))
			}
			if !independent(seen) {
				t.Fatalf("at %d of %d bytes some change is not seen", at, size)
			}
		}
	}
}

// R3 and R4: what is handed in is as it was, and an answer hangs on it alone.

func TestWhatIsHandedInStays(t *testing.T) {
	for _, size := range []int{0, 1, 4, 33, 1000} {
		room := octetsOf(21, size+64)
		before := bytes.Clone(room)
		b := room[8 : 8+size : len(room)-8]
		Crc(b)
		if !bytes.Equal(room, before) {
			t.Errorf("Crc of %d bytes changed what it was handed, or the room about it", size)
		}
		More(0xFFFFFFFF, b)
		if !bytes.Equal(room, before) {
			t.Errorf("More of %d bytes changed what it was handed, or the room about it", size)
		}
	}
}

func TestSpareRoomIsNotSummed(t *testing.T) {
	for size := range 40 {
		room := octetsOf(22, 64)
		b := room[:size]
		tight := bytes.Clone(b)
		slices.Reverse(room[size:])
		if Crc(b) != Crc(tight) || More(5, b) != More(5, tight) {
			t.Errorf("the room behind %d bytes changes their sum", size)
		}
	}
}

func TestCallsKeepNothing(t *testing.T) {
	a, b := octetsOf(23, 50), octetsOf(24, 60)
	crc, more := Crc(a), More(9, a)
	Crc(b)
	More(0xFFFFFFFF, slices.Concat(a, b))
	if Crc(a) != crc || More(9, a) != more {
		t.Error("a second call answers otherwise than the first")
	}
	a[0] ^= 1
	if Crc(a) != remainder(0, a) {
		t.Error("the sum is of a list as it was once")
	}
}
