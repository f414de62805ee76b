package varint

import (
	"bytes"
	"encoding/binary"
	"math"
	"math/big"
	"math/bits"
	"slices"
	"testing"
)

// bytesOf is the chapter's rule on numbers of any size: groups of seven bits, the lowest one first, 128 added to each but the last.
func bytesOf(n *big.Int) []byte {
	rest := new(big.Int).Set(n)
	var out []byte
	for {
		group := new(big.Int)
		rest.DivMod(rest, big.NewInt(128), group)
		if rest.Sign() == 0 {
			return append(out, byte(group.Int64()))
		}
		out = append(out, byte(group.Int64())+128)
	}
}

func plain(n uint64) []byte {
	return bytesOf(new(big.Int).SetUint64(n))
}

// signed is 2 n, or -2 n - 1 below 0, without a wrap round.
func signed(n int64) []byte {
	v := new(big.Int).Mul(big.NewInt(2), big.NewInt(n))
	if n < 0 {
		v.Sub(v.Neg(v), big.NewInt(1))
	}
	return bytesOf(v)
}

// stands says what Get is to answer, by holding what stands from at on against the bytes of each length of number that there may be.
func stands(b []byte, at int) (uint64, int, bool) {
	if at < 0 || at >= len(b) {
		return 0, 0, false
	}
	for size := 1; size <= 10 && size <= len(b)-at; size++ {
		n := new(big.Int)
		for i := size - 1; i >= 0; i-- {
			n.Add(n.Lsh(n, 7), big.NewInt(int64(b[at+i]%128)))
		}
		if n.IsUint64() && bytes.Equal(bytesOf(n), b[at:at+size]) {
			return n.Uint64(), at + size, true
		}
	}
	return 0, 0, false
}

// row tells numbers without a pattern, always the same ones.
func row(seed uint64) func() uint64 {
	return func() uint64 {
		seed = seed*6364136223846793005 + 1442695040888963407
		return bits.Reverse64(seed) ^ seed>>7
	}
}

// someNumbers are the edges (each power of two and of 128, with its neighbours) and some without a pattern, of every length.
func someNumbers() []uint64 {
	out := []uint64{0, 1, 2, 127, 128, 129, 300, 16383, 16384, 1 << 63, 1<<63 - 1, math.MaxUint64, math.MaxUint64 - 1,
		0x0102030405060708, 0xF1E2D3C4B5A69788, 0x8000000000000001, 0x5555555555555555, 0xAAAAAAAAAAAAAAAA}
	for i := range 64 {
		out = append(out, 1<<i, 1<<i-1, 1<<i+1)
	}
	next := row(1)
	for i := range 64 {
		for range 20 {
			out = append(out, next()>>i)
		}
	}
	return out
}

func someSigned() []int64 {
	out := []int64{0, -1, 1, -2, 2, 63, 64, -63, -64, -65, math.MinInt64, math.MinInt64 + 1, math.MaxInt64, math.MaxInt64 - 1}
	for _, n := range someNumbers() {
		out = append(out, int64(n), -int64(n))
	}
	return out
}

// farPlaces are places that no list of these tests has.
func farPlaces() []int {
	return []int{math.MinInt, math.MinInt + 1, math.MinInt + 10, -65536, -11, -10, -9, -2, -1,
		1 << 30, math.MaxInt - 11, math.MaxInt - 10, math.MaxInt - 9, math.MaxInt - 1, math.MaxInt}
}

// ff is n bytes FF, and the others behind them.
func ff(n int, others ...byte) []byte {
	return append(bytes.Repeat([]byte{0xFF}, n), others...)
}

// refused says that neither Get nor GetInt finds a number there, and that they tell nothing else.
func refused(t *testing.T, b []byte, at int) {
	t.Helper()
	if n, end, ok := Get(b, at); n != 0 || end != 0 || ok {
		t.Errorf("Get(% X, %d) = %d, %d, %v", b, at, n, end, ok)
	}
	if n, end, ok := GetInt(b, at); n != 0 || end != 0 || ok {
		t.Errorf("GetInt(% X, %d) = %d, %d, %v", b, at, n, end, ok)
	}
}

// asRule says that Get and GetInt answer what the chapter's rule does.
func asRule(t *testing.T, b []byte, at int) {
	t.Helper()
	n, end, ok := stands(b, at)
	if !ok {
		refused(t, b, at)
		return
	}
	if got, to, found := Get(b, at); got != n || to != end || !found {
		t.Errorf("Get(% X, %d) = %d, %d, %v, want %d, %d", b, at, got, to, found, n, end)
	}
	got, to, found := GetInt(b, at)
	if !bytes.Equal(signed(got), b[at:end]) || to != end || !found {
		t.Errorf("GetInt(% X, %d) = %d, %d, %v", b, at, got, to, found)
	}
}

// The chapter's examples.

func TestExamplesOfPut(t *testing.T) {
	for _, c := range []struct {
		n    uint64
		want []byte
	}{{0, []byte{0}}, {127, []byte{0x7F}}, {128, []byte{0x80, 1}}, {300, []byte{0xAC, 2}}, {math.MaxUint64, ff(9, 1)}} {
		if got := Put(nil, c.n); !bytes.Equal(got, c.want) {
			t.Errorf("Put(none, %d) = % X, want % X", c.n, got, c.want)
		}
	}
	for _, c := range []struct {
		n    int64
		want []byte
	}{{0, []byte{0}}, {-1, []byte{1}}, {1, []byte{2}}, {-2, []byte{3}}, {math.MinInt64, ff(9, 1)}} {
		if got := PutInt(nil, c.n); !bytes.Equal(got, c.want) {
			t.Errorf("PutInt(none, %d) = % X, want % X", c.n, got, c.want)
		}
	}
}

func TestExamplesOfGet(t *testing.T) {
	if n, end, ok := Get([]byte{0xAC, 2}, 0); n != 300 || end != 2 || !ok {
		t.Errorf("Get(AC 02, 0) = %d, %d, %v", n, end, ok)
	}
	refused(t, []byte{0x80, 0}, 0)
	refused(t, []byte{0x80}, 0)
	refused(t, nil, 0)
	refused(t, ff(10), 0)
	refused(t, ff(9, 2), 0)
	refused(t, []byte{0}, 1)
	refused(t, []byte{0}, -1)
}

// P3.1: the bytes of a number, behind what is there.

func TestPut(t *testing.T) {
	for _, n := range someNumbers() {
		want := plain(n)
		if by := binary.AppendUvarint(nil, n); !bytes.Equal(by, want) {
			t.Fatalf("two rules for %d: % X and % X", n, by, want)
		}
		for _, b := range [][]byte{nil, {}, {7}, {0x80}, {1, 2, 3}, ff(40)} {
			if got := Put(b, n); !bytes.Equal(got, slices.Concat(b, want)) {
				t.Errorf("Put(% X, %d) = % X, want % X behind", b, n, got, want)
			}
		}
	}
}

func TestPutInt(t *testing.T) {
	for _, n := range someSigned() {
		want := signed(n)
		for _, b := range [][]byte{nil, {}, {7}, {0x80}, {1, 2, 3}, ff(40)} {
			if got := PutInt(b, n); !bytes.Equal(got, slices.Concat(b, want)) {
				t.Errorf("PutInt(% X, %d) = % X, want % X behind", b, n, got, want)
			}
		}
	}
}

func TestPutIntCountsToAndFro(t *testing.T) {
	for n := range int64(5000) {
		if !bytes.Equal(PutInt(nil, n), Put(nil, uint64(2*n))) {
			t.Fatalf("PutInt of %d", n)
		}
		if !bytes.Equal(PutInt(nil, -n-1), Put(nil, uint64(2*n+1))) {
			t.Fatalf("PutInt of %d", -n-1)
		}
	}
}

func TestPutBehindALongList(t *testing.T) {
	long := bytes.Repeat([]byte{0x81, 0, 0xFF}, 30000)
	for _, n := range []uint64{0, 127, 128, math.MaxUint64} {
		if got := Put(long, n); !bytes.Equal(got, slices.Concat(long, plain(n))) {
			t.Errorf("Put of %d behind %d bytes", n, len(long))
		}
	}
}

// P3.1: how many bytes a number has.

func TestLen(t *testing.T) {
	for _, n := range someNumbers() {
		if got, want := Len(n), len(plain(n)); got != want {
			t.Errorf("Len(%d) = %d, want %d", n, got, want)
		}
	}
}

func TestLenAtThePowersOf128(t *testing.T) {
	for size := 1; size <= 9; size++ {
		power := uint64(1) << (7 * size)
		if got := Len(power - 1); got != size {
			t.Errorf("Len(128^%d - 1) = %d", size, got)
		}
		if got := Len(power); got != size+1 {
			t.Errorf("Len(128^%d) = %d", size, got)
		}
	}
	if Len(0) != 1 || Len(math.MaxUint64) != 10 {
		t.Errorf("Len of the least is %d, of the greatest %d", Len(0), Len(math.MaxUint64))
	}
}

// P3.2: what stands is told.

func TestGetOfEachShortList(t *testing.T) {
	for v := range 256 {
		asRule(t, []byte{byte(v)}, 0)
		for w := range 256 {
			asRule(t, []byte{byte(v), byte(w)}, 0)
			asRule(t, []byte{byte(v), byte(w)}, 1)
		}
	}
}

func TestGetOfThreeBytes(t *testing.T) {
	edges := []byte{0, 1, 2, 63, 64, 126, 127, 128, 129, 192, 254, 255}
	for _, first := range edges {
		for _, second := range edges {
			for _, third := range edges {
				for at := range 5 {
					asRule(t, []byte{first, second, third}, at-1)
				}
			}
		}
	}
}

func TestGetOfLongerLists(t *testing.T) {
	next := row(2)
	for range 20000 {
		b := make([]byte, next()%14)
		often := next() % 3
		for i := range b {
			b[i] = byte(next())
			if often > 0 {
				b[i] |= 0x80
			}
		}
		for at := -1; at <= len(b)+1; at++ {
			asRule(t, b, at)
		}
	}
}

// P3.2: more bytes than the number's own.

func TestALastGroupOfNoughtIsRefused(t *testing.T) {
	for _, n := range someNumbers() {
		own := plain(n)
		for size := len(own) + 1; size <= 12; size++ {
			b := bytes.Clone(own)
			b[len(b)-1] |= 0x80
			for len(b) < size-1 {
				b = append(b, 0x80)
			}
			refused(t, append(b, 0), 0)
		}
	}
	for size := 1; size <= 20; size++ {
		refused(t, append(bytes.Repeat([]byte{0x80}, size), 0), 0)
		refused(t, ff(size, 0), 0)
	}
}

// P3.2: bytes that do not end.

func TestCutBytesAreRefused(t *testing.T) {
	for _, n := range someNumbers() {
		own := plain(n)
		for cut := range own {
			refused(t, own[:cut], 0)
			refused(t, own[:cut:cut], 0)
			refused(t, slices.Concat([]byte{5, 0x80}, own[:cut]), 2)
		}
	}
	for size := range 30 {
		refused(t, ff(size), 0)
		refused(t, bytes.Repeat([]byte{0x80}, size), 0)
	}
}

// P3.2: more than 2^64 - 1.

func TestTheTenthByte(t *testing.T) {
	for _, ahead := range [][]byte{ff(9), bytes.Repeat([]byte{0x80}, 9), {0x81, 0x82, 0x83, 0x84, 0x85, 0x86, 0x87, 0x88, 0x89}} {
		for last := range 256 {
			b := append(bytes.Clone(ahead), byte(last))
			if last == 1 {
				asRule(t, b, 0)
				if n, end, ok := Get(b, 0); n < 1<<63 || end != 10 || !ok {
					t.Errorf("Get(% X, 0) = %d, %d, %v", b, n, end, ok)
				}
				continue
			}
			refused(t, b, 0)
			for _, behind := range []byte{0, 1, 0x7F, 0x80, 0xFF} {
				refused(t, append(bytes.Clone(b), behind), 0)
			}
		}
	}
	for size := 10; size < 40; size++ {
		refused(t, ff(size, 1), 0)
		refused(t, append(bytes.Repeat([]byte{0x80}, size), 1), 0)
	}
}

// P3.2: places that are none.

func TestNoPlaceIsRefused(t *testing.T) {
	for _, b := range [][]byte{nil, {}, {0}, {1, 2}, {0xAC, 2}, ff(9, 1), make([]byte, 100)} {
		for _, at := range farPlaces() {
			refused(t, b, at)
		}
		for past := range 20 {
			refused(t, b, len(b)+past)
		}
	}
}

func TestSpareRoomIsNoPlace(t *testing.T) {
	room := make([]byte, 40)
	for size := range 20 {
		refused(t, room[:size], size)
		refused(t, room[:size], size+1)
	}
	for cut := range 9 {
		refused(t, ff(9, 1)[:cut+1], 0)
	}
}

// P3.3: what is put is read back, wherever it stands, whatever is behind it.

func surroundings() [][]byte {
	return [][]byte{nil, {0}, {0x80}, {0xFF}, {1, 0x80, 0}, ff(12), bytes.Repeat([]byte{0x80}, 12), make([]byte, 12)}
}

func TestWhatIsPutIsReadBack(t *testing.T) {
	for _, n := range someNumbers() {
		for _, ahead := range surroundings() {
			put := Put(ahead, n)
			for _, behind := range surroundings() {
				b := slices.Concat(put, behind)
				if got, end, ok := Get(b, len(ahead)); got != n || end != len(put) || !ok {
					t.Fatalf("Get(% X, %d) = %d, %d, %v, want %d, %d", b, len(ahead), got, end, ok, n, len(put))
				}
			}
		}
	}
}

func TestWhatIsPutWithASignIsReadBack(t *testing.T) {
	for _, n := range someSigned() {
		for _, ahead := range surroundings() {
			put := PutInt(ahead, n)
			for _, behind := range surroundings() {
				b := slices.Concat(put, behind)
				if got, end, ok := GetInt(b, len(ahead)); got != n || end != len(put) || !ok {
					t.Fatalf("GetInt(% X, %d) = %d, %d, %v, want %d, %d", b, len(ahead), got, end, ok, n, len(put))
				}
			}
		}
	}
}

func TestARowIsReadBack(t *testing.T) {
	var b []byte
	for i, n := range someNumbers() {
		if i%2 == 0 {
			b = Put(b, n)
		} else {
			b = PutInt(b, int64(n))
		}
	}
	at := 0
	for i, n := range someNumbers() {
		var got uint64
		var ok bool
		if i%2 == 0 {
			got, at, ok = Get(b, at)
		} else {
			var back int64
			back, at, ok = GetInt(b, at)
			got = uint64(back)
		}
		if got != n || !ok {
			t.Fatalf("number %d: %d, %v, want %d", i, got, ok, n)
		}
	}
	if at != len(b) {
		t.Errorf("read up to %d of %d bytes", at, len(b))
	}
}

// P3.3: no number's bytes are the beginning of another one's.

func TestNoBytesBeginOthers(t *testing.T) {
	numbers := someNumbers()
	slices.Sort(numbers)
	numbers = slices.Compact(numbers)
	forms := make([][]byte, len(numbers))
	for i, n := range numbers {
		forms[i] = Put(nil, n)
	}
	for i, form := range forms {
		for j, other := range forms {
			if i != j && bytes.HasPrefix(other, form) {
				t.Fatalf("the bytes of %d begin those of %d", numbers[i], numbers[j])
			}
		}
	}
}

// P3.3: a greater number has no fewer bytes.

func TestAGreaterNumberHasNoFewerBytes(t *testing.T) {
	numbers := someNumbers()
	slices.Sort(numbers)
	for i, n := range numbers {
		if len(Put(nil, n)) != Len(n) {
			t.Errorf("Len(%d) = %d, but its bytes are % X", n, Len(n), Put(nil, n))
		}
		if i > 0 && Len(n) < Len(numbers[i-1]) {
			t.Errorf("%d has %d bytes, %d has %d", n, Len(n), numbers[i-1], Len(numbers[i-1]))
		}
	}
}

// A function that is ranged over is left when the loop is.

func TestTheWalkMayBeLeft(t *testing.T) {
	for stop := 1; stop <= 10; stop++ {
		put, got := 0, 0
		for range octetsOf(math.MaxUint64) {
			if put++; put == stop {
				break
			}
		}
		for range upToLast(ff(9, 1)) {
			if got++; got == stop {
				break
			}
		}
		if put != stop || got != stop {
			t.Errorf("left behind %d and %d bytes, not %d", put, got, stop)
		}
	}
}

// R3: what is handed in is as it was, its spare room too, and what is handed out is new.

// roomy is size bytes with filled room behind them (and ahead), and the whole of it.
func roomy(size int) (b, all []byte) {
	next := row(uint64(size) + 3)
	all = make([]byte, size+64)
	for i := range all {
		all[i] = byte(next())
	}
	return all[8 : 8+size], all
}

func TestWhatIsHandedInStays(t *testing.T) {
	for _, size := range []int{0, 1, 2, 9, 10, 11, 100} {
		b, all := roomy(size)
		before := bytes.Clone(all)
		calls := map[string]func(){}
		for _, n := range []uint64{0, 127, 128, 300, 1 << 63, math.MaxUint64} {
			calls["Put"] = func() { Put(b, n) }
			calls["PutInt"] = func() { PutInt(b, int64(n)) }
			for at := -1; at <= size+1; at++ {
				calls["Get"] = func() { Get(b, at) }
				calls["GetInt"] = func() { GetInt(b, at) }
				for name, call := range calls {
					if call(); !bytes.Equal(all, before) {
						t.Fatalf("%s of %d bytes changed what it was handed, or the room about it", name, size)
					}
				}
			}
		}
	}
}

func TestWhatIsHandedOutIsNew(t *testing.T) {
	for _, size := range []int{0, 1, 9, 10, 100} {
		for _, n := range []uint64{0, 127, 128, math.MaxUint64} {
			b, all := roomy(size)
			before := bytes.Clone(all)
			outs := [][]byte{Put(b, n), Put(b, n), PutInt(b, int64(n)), PutInt(b, int64(n))}
			for i, out := range outs {
				kept := make([][]byte, len(outs))
				for j := range outs {
					kept[j] = bytes.Clone(outs[j][:cap(outs[j])])
				}
				whole := out[:cap(out)]
				for k := range whole {
					whole[k] ^= 0xFF
				}
				if !bytes.Equal(all, before) {
					t.Fatalf("answer %d shares memory with what was handed in (%d bytes, %d)", i, size, n)
				}
				for j := range outs {
					if j != i && !bytes.Equal(kept[j], outs[j][:cap(outs[j])]) {
						t.Fatalf("answers %d and %d share memory (%d bytes, %d)", i, j, size, n)
					}
				}
			}
		}
	}
}

func TestAnswersStayWhenTheListChanges(t *testing.T) {
	b := []byte{1, 2, 3}
	put, signed := Put(b, 300), PutInt(b, -1)
	clear(b)
	if !bytes.Equal(put, []byte{1, 2, 3, 0xAC, 2}) || !bytes.Equal(signed, []byte{1, 2, 3, 1}) {
		t.Errorf("an answer changed with the list: % X, % X", put, signed)
	}
}

// R4: an answer hangs on what is handed in alone; R6: an empty list and none are the same.

func TestCallsKeepNothing(t *testing.T) {
	for _, n := range []uint64{300, 0, math.MaxUint64, 5, 1 << 63, 300} {
		first, signed := Put(nil, n), PutInt([]byte{}, int64(n))
		Put(ff(3), ^n)
		Get(ff(20), 0)
		GetInt([]byte{0x80}, 0)
		if !bytes.Equal(Put([]byte{}, n), first) || !bytes.Equal(PutInt(nil, int64(n)), signed) {
			t.Errorf("a second call answers otherwise than the first: %d", n)
		}
		if got, _, ok := Get(first, 0); got != n || !ok {
			t.Errorf("Get of %d = %d, %v", n, got, ok)
		}
	}
}
