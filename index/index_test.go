package index

import (
	"math"
	"slices"
	"testing"

	"conduit/api"
)

// pairs is a list of pairs, written as number, place, number, place ..
func pairs(flat ...int) [][2]int {
	var l [][2]int
	for p := range slices.Chunk(flat, 2) {
		l = append(l, [2]int{p[0], p[1]})
	}
	return l
}

// placeOf is the sum of the sizes ahead of the i-th one.
func placeOf(sizes []int, i int) int {
	sum := 0
	for _, size := range sizes[:i] {
		sum += size
	}
	return sum
}

// built is what Build is to tell of right arguments, each place summed up anew.
func built(sizes []int, every int) [][2]int {
	l := pairs(0, 0)
	for i := range sizes {
		if p := placeOf(sizes, i); uint64(p)-uint64(l[len(l)-1][1]) >= uint64(every) {
			l = append(l, [2]int{i, p})
		}
	}
	return l
}

// isRight is the chapter's word for it, each part asked of each pair by itself.
func isRight(l [][2]int) bool {
	right := len(l) > 0
	for i, p := range l {
		if i == 0 && (p[0] != 0 || p[1] != 0) {
			right = false
		}
		if i > 0 && p[0] <= l[i-1][0] {
			right = false
		}
		if i > 0 && p[1] < l[i-1][1] {
			right = false
		}
		if p[0] > 4611686018427387904 || p[1] > 4611686018427387904 {
			right = false
		}
	}
	return right
}

// found is what Find is to tell of right arguments: the last pair whose number is at most n.
func found(l [][2]int, n int) [2]int {
	var last [2]int
	for _, p := range l {
		if p[0] <= n {
			last = p
		}
	}
	return last
}

func build(t *testing.T, sizes []int, every int) [][2]int {
	t.Helper()
	l, e := Build(sizes, every)
	if e != api.OK {
		t.Fatalf("Build of %d sizes, every %d: error %d", len(sizes), every, e)
	}
	return l
}

func builds(t *testing.T, sizes []int, every int, want [][2]int) {
	t.Helper()
	if l := build(t, sizes, every); !slices.Equal(l, want) {
		t.Errorf("Build(%v, %d) = %v, want %v", sizes, every, l, want)
	}
}

func refusesBuild(t *testing.T, what string, sizes []int, every int) {
	t.Helper()
	if l, e := Build(sizes, every); e != api.ErrArg || len(l) != 0 {
		t.Errorf("Build, %s: %d pairs, error %d, want none and ErrArg", what, len(l), e)
	}
}

func finds(t *testing.T, l [][2]int, n int, want [2]int) {
	t.Helper()
	if p, e := Find(l, n); p != want || e != api.OK {
		t.Errorf("Find(%v, %d) = %v, error %d, want %v", l, n, p, e, want)
	}
}

func refusesFind(t *testing.T, l [][2]int, n int) {
	t.Helper()
	if p, e := Find(l, n); p != ([2]int{}) || e != api.ErrArg {
		t.Errorf("Find(%v, %d) = %v, error %d, want zeros and ErrArg", l, n, p, e)
	}
}

// near says P9.3 of what Build told of these sizes: it is right, and from the pair that Find tells fewer than every bytes are ahead of the number's place. behind are the places, with the end of all behind them.
func near(t *testing.T, sizes []int, every int, l [][2]int, behind []int) {
	t.Helper()
	if !Right(l) {
		t.Fatalf("Build(%v, %d) = %v is not right", sizes, every, l)
	}
	for n := range sizes {
		p, e := Find(l, n)
		if e != api.OK || p[0] > n || p[1] != behind[p[0]] {
			t.Fatalf("Find(%v, %d) = %v, error %d", l, n, p, e)
		}
		if ahead := behind[n] - p[1]; ahead < 0 || ahead >= every {
			t.Fatalf("every %d: %d bytes from %v to number %d of %v", every, ahead, p, n, sizes)
		}
	}
	// No size is at how many there are: that number is told the last pair, like all behind it.
	for _, n := range []int{len(sizes), len(sizes) + 1, math.MaxInt} {
		if p, e := Find(l, n); e != api.OK || p != l[len(l)-1] {
			t.Fatalf("Find(%v, %d) = %v, error %d", l, n, p, e)
		}
	}
}

func placesOf(sizes []int) []int {
	behind := []int{0}
	for _, size := range sizes {
		behind = append(behind, behind[len(behind)-1]+size)
	}
	return behind
}

// row tells numbers below a bound without a pattern, always the same ones.
func row(seed uint64) func(int) int {
	seed = seed*2 + 1
	return func(bound int) int {
		seed = seed*6364136223846793005 + 1442695040888963407
		return int(seed>>33) % bound
	}
}

func same(n, size int) []int {
	return slices.Repeat([]int{size}, n)
}

func TestExamples(t *testing.T) {
	builds(t, []int{10, 10, 10, 10, 10}, 25, pairs(0, 0, 3, 30))
	builds(t, nil, 5, pairs(0, 0))
	builds(t, []int{100, 1, 1}, 50, pairs(0, 0, 1, 100))
	l := pairs(0, 0, 3, 30)
	finds(t, l, 2, [2]int{0, 0})
	finds(t, l, 3, [2]int{3, 30})
	finds(t, l, 99, [2]int{3, 30})
	refusesBuild(t, "every 0", []int{10, 10}, 0)
	refusesFind(t, nil, 0)
	refusesFind(t, pairs(1, 0), 1)
	refusesFind(t, l, -1)
}

// P9.1, every.
func TestBuildEvery(t *testing.T) {
	lists := [][]int{nil, {}, {0}, {7}, {1, 1, 1}, {0, 5, 0, 5}, same(40, 1<<30)}
	for _, sizes := range lists {
		for _, every := range []int{0, -1, -2, -1 << 30, math.MinInt, math.MinInt + 1} {
			refusesBuild(t, "every too low", sizes, every)
		}
		for _, every := range []int{1, 2, 5, 6, 1 << 30, 1<<30 + 1, 1 << 62, math.MaxInt - 1, math.MaxInt} {
			builds(t, sizes, every, built(sizes, every))
		}
		builds(t, sizes, math.MaxInt, pairs(0, 0))
	}
	builds(t, []int{3, 4, 5}, 1, pairs(0, 0, 1, 3, 2, 7))
	builds(t, []int{1, 1, 1}, 1, pairs(0, 0, 1, 1, 2, 2))
}

// P9.1, how many sizes.
func TestBuildHowMany(t *testing.T) {
	for _, every := range []int{1, 77, math.MaxInt} {
		builds(t, nil, every, pairs(0, 0))
		builds(t, []int{}, every, pairs(0, 0))
		builds(t, []int{0}, every, pairs(0, 0))
		builds(t, []int{1 << 30}, every, pairs(0, 0))
		refusesBuild(t, "65537 of 0", same(65537, 0), every)
		refusesBuild(t, "65537 of 1", same(65537, 1), every)
		refusesBuild(t, "100000 of 2^30", same(100000, 1<<30), every)
		builds(t, same(65536, 0), every, pairs(0, 0))
	}
	l := build(t, same(65536, 1<<30), 1)
	if len(l) != 65536 {
		t.Fatal(len(l))
	}
	for i, p := range l {
		if p != [2]int{i, i << 30} {
			t.Fatal(i, p)
		}
	}
	builds(t, same(65536, 1<<30), 1<<45, pairs(0, 0, 32768, 1<<45))
	builds(t, same(65536, 1<<30), 65535<<30, pairs(0, 0, 65535, 65535<<30))
	builds(t, same(65536, 1<<30), 65535<<30+1, pairs(0, 0))
	builds(t, same(65535, 1<<30), 65535<<30, pairs(0, 0))
}

// P9.1, how great a size may be, wherever it stands.
func TestBuildSizes(t *testing.T) {
	for _, others := range [][]int{{}, {0, 0}, {1, 2, 3, 4}, {1 << 30, 1 << 30}} {
		for _, at := range []int{0, len(others) / 2, len(others)} {
			for _, size := range []int{0, 1, 1<<30 - 1, 1 << 30} {
				sizes := slices.Insert(slices.Clone(others), at, size)
				for _, every := range []int{1, 2, 3, 1 << 30, 1 << 31} {
					builds(t, sizes, every, built(sizes, every))
				}
			}
			for _, size := range []int{-1, -2, math.MinInt, 1<<30 + 1, 1 << 31, 1 << 62, math.MaxInt} {
				sizes := slices.Insert(slices.Clone(others), at, size)
				for _, every := range []int{1, 3, math.MaxInt, 0, -1} {
					refusesBuild(t, "a size that may not be", sizes, every)
				}
			}
		}
	}
	far := same(65536, 1)
	far[65535] = -1
	refusesBuild(t, "the last of 65536 below 0", far, 9)
	far[65535] = 1<<30 + 1
	refusesBuild(t, "the last of 65536 too great", far, 9)
}

// P9.1: a number whose place is a pair's has no pair of its own.
func TestSizesOfNone(t *testing.T) {
	builds(t, []int{0, 0, 0, 5}, 1, pairs(0, 0))
	builds(t, []int{5, 0, 0, 0, 5, 0, 0}, 5, pairs(0, 0, 1, 5, 5, 10))
	builds(t, []int{5, 0, 0, 0, 5, 0, 0}, 1, pairs(0, 0, 1, 5, 5, 10))
	builds(t, []int{0, 0, 4, 0, 1, 0, 0}, 5, pairs(0, 0, 5, 5))
	l := pairs(0, 0, 1, 5, 5, 10)
	finds(t, l, 0, [2]int{0, 0})
	finds(t, l, 1, [2]int{1, 5})
	finds(t, l, 4, [2]int{1, 5})
	finds(t, l, 5, [2]int{5, 10})
	finds(t, l, 6, [2]int{5, 10})
}

// P9.1: just every behind the last pair, and one less, at the first pair and at others.
func TestJustEvery(t *testing.T) {
	for _, every := range []int{1, 2, 3, 10, 64, 1 << 20, 1 << 30} {
		builds(t, []int{every, 0}, every, pairs(0, 0, 1, every))
		builds(t, []int{every - 1, 0}, every, pairs(0, 0))
		builds(t, []int{every - 1, 1, 0}, every, pairs(0, 0, 2, every))
		builds(t, []int{every, every, 0}, every, pairs(0, 0, 1, every, 2, 2*every))
		builds(t, []int{every, every - 1, 0}, every, pairs(0, 0, 1, every))
		builds(t, []int{every, every - 1, 1, 0}, every, pairs(0, 0, 1, every, 3, 2*every))
	}
	// Behind the last pair, not behind multiples of every.
	builds(t, []int{7, 3, 2, 5, 1}, 5, pairs(0, 0, 1, 7, 3, 12, 4, 17))
	builds(t, []int{7, 3, 1, 5, 1}, 5, pairs(0, 0, 1, 7, 4, 16))
}

// The end of all is no number's place: the last size makes no pair.
func TestTheLastSize(t *testing.T) {
	builds(t, []int{100}, 50, pairs(0, 0))
	builds(t, []int{1, 100}, 50, pairs(0, 0))
	builds(t, []int{50, 100}, 50, pairs(0, 0, 1, 50))
	builds(t, []int{50, 100, 0}, 50, pairs(0, 0, 1, 50, 2, 150))
}

// P9.2, Right.
func TestRight(t *testing.T) {
	const top = 1 << 62
	right := [][][2]int{
		pairs(0, 0),
		pairs(0, 0, 1, 0),
		pairs(0, 0, 1, 1, 2, 1, 3, 1),
		pairs(0, 0, 5, 0, 6, 0, 1000, 1),
		pairs(0, 0, 1, top),
		pairs(0, 0, top, 0),
		pairs(0, 0, top-1, top-1, top, top),
		pairs(0, 0, 1, top, 2, top, top, top),
	}
	for _, l := range right {
		if !Right(l) {
			t.Errorf("Right(%v) is false", l)
		}
	}
	wrong := [][][2]int{
		nil,
		{},
		pairs(1, 0),
		pairs(0, 1),
		pairs(-1, 0),
		pairs(0, -1),
		pairs(1, 1, 2, 2),
		pairs(0, 1, 2, 2),
		pairs(-1, -1, 0, 0),
		pairs(0, 0, 0, 0),
		pairs(0, 0, 0, 5),
		pairs(0, 0, -1, 5),
		pairs(0, 0, 5, -1),
		pairs(0, 0, 3, 3, 3, 4),
		pairs(0, 0, 3, 3, 2, 4),
		pairs(0, 0, 3, 3, 4, 2),
		pairs(0, 0, 3, 3, 4, 4, 5, 3),
		pairs(0, 0, 3, 3, 4, 4, 4, 5),
		pairs(0, 0, top+1, 0),
		pairs(0, 0, 1, top+1),
		pairs(0, 0, top, top, top+1, top),
		pairs(0, 0, 1, top, 2, top+1),
		pairs(0, 0, math.MaxInt, math.MaxInt),
		pairs(0, 0, math.MinInt, 0),
		pairs(0, 0, 1, math.MinInt),
		pairs(math.MinInt, math.MinInt),
	}
	for _, l := range wrong {
		if Right(l) {
			t.Errorf("Right(%v) is true", l)
		}
		for _, n := range []int{0, 1, 3, 99, -1, math.MaxInt} {
			refusesFind(t, l, n)
		}
	}
}

// Every list of up to three pairs of numbers at the edges.
func TestRightOfEveryShortList(t *testing.T) {
	edges := []int{math.MinInt, -1, 0, 1, 2, 1 << 62, 1<<62 + 1, math.MaxInt}
	var all [][2]int
	for _, n := range edges {
		for _, p := range edges {
			all = append(all, [2]int{n, p})
		}
	}
	check := func(l ...[2]int) {
		if got := Right(l); got != isRight(l) {
			t.Fatalf("Right(%v) = %v", l, got)
		}
		for _, n := range edges {
			if isRight(l) && n >= 0 {
				finds(t, l, n, found(l, n))
			} else {
				refusesFind(t, l, n)
			}
		}
	}
	check()
	for _, a := range all {
		check(a)
		for _, b := range all {
			check(a, b)
			check([2]int{}, a, b)
		}
	}
}

// P9.2, Find at each number, between two, behind the last, and where none may be.
func TestFind(t *testing.T) {
	const top = 1 << 62
	lists := [][][2]int{
		pairs(0, 0),
		pairs(0, 0, 1, 0),
		pairs(0, 0, 1, 9),
		pairs(0, 0, 3, 30, 4, 30, 9, 31),
		pairs(0, 0, 2, 2, 4, 4, 6, 6, 8, 8),
		pairs(0, 0, 2, 2, 4, 4, 6, 6, 8, 8, 10, 10),
		pairs(0, 0, 5, 7, top-1, 8, top, top),
	}
	for _, l := range lists {
		for i, p := range l {
			finds(t, l, p[0], p)
			end := math.MaxInt
			if i+1 < len(l) {
				end = l[i+1][0] - 1
			}
			finds(t, l, end, p)
			finds(t, l, p[0]+(end-p[0])/2, p)
		}
		for _, n := range []int{-1, -2, math.MinInt} {
			refusesFind(t, l, n)
		}
	}
	finds(t, pairs(0, 0), 0, [2]int{0, 0})
	finds(t, pairs(0, 0), math.MaxInt, [2]int{0, 0})
	finds(t, pairs(0, 0, top, top), top-1, [2]int{0, 0})
	finds(t, pairs(0, 0, top, top), top, [2]int{top, top})
	// A pair at the end that is not right counts, wherever n is.
	refusesFind(t, pairs(0, 0, 3, 30, 2, 31), 0)
	refusesFind(t, pairs(0, 0, 3, 30, 4, 29), 0)
}

// A long index: each number of it, and what is between.
func TestFindInMany(t *testing.T) {
	var l [][2]int
	for i := range 70000 {
		l = append(l, [2]int{3 * i, 2 * (i / 5)})
	}
	for n := 0; n < 70000*3; n += 1 + n%101 {
		// The list is too long to be printed at each fault.
		if p, e := Find(l, n); p != l[n/3] || e != api.OK {
			t.Fatal(n, p, e)
		}
	}
	for _, n := range []int{209997, 210000, math.MaxInt} {
		if p, e := Find(l, n); p != [2]int{209997, 27998} || e != api.OK {
			t.Fatal(n, p, e)
		}
	}
	l[69999][0] = l[69998][0]
	if p, e := Find(l, 0); p != ([2]int{}) || e != api.ErrArg {
		t.Fatal(p, e)
	}
}

// P9.1 and P9.3 of every list of up to six sizes from 0 to 3.
func TestEveryShortList(t *testing.T) {
	lists := [][]int{{}}
	for from := 0; from < len(lists); from++ {
		sizes := lists[from]
		for every := 1; every <= 8; every++ {
			l := build(t, sizes, every)
			if want := built(sizes, every); !slices.Equal(l, want) {
				t.Fatalf("Build(%v, %d) = %v, want %v", sizes, every, l, want)
			}
			near(t, sizes, every, l, placesOf(sizes))
		}
		for size := 0; size <= 3 && len(sizes) < 6; size++ {
			lists = append(lists, append(slices.Clone(sizes), size))
		}
	}
}

// drawn are sizes and an every of a kind that hangs on the seed: small and great ones, with noughts between.
func drawn(seed uint64) ([]int, int) {
	next := row(seed)
	bound := []int{2, 5, 100, 5000, 1 << 20, 1<<30 + 1}[next(6)]
	sizes := make([]int, next([]int{3, 20, 150}[next(3)]))
	for i := range sizes {
		if next(4) > 0 {
			sizes[i] = next(bound)
		}
	}
	every := 1 + next(3*bound)
	switch next(10) {
	case 0:
		every = 1
	case 1:
		every = math.MaxInt - next(5)
	}
	return sizes, every
}

// P9.1 and P9.3 of many lists.
func TestDrawn(t *testing.T) {
	for seed := range uint64(6000) {
		sizes, every := drawn(seed)
		l := build(t, sizes, every)
		if want := built(sizes, every); !slices.Equal(l, want) {
			t.Fatalf("Build(%v, %d) = %v, want %v", sizes, every, l, want)
		}
		near(t, sizes, every, l, placesOf(sizes))
	}
}

// P9.3 of as many sizes as there may be.
func TestNearInMany(t *testing.T) {
	next := row(99)
	for _, bound := range []int{2, 300, 1<<30 + 1} {
		sizes := make([]int, 65536)
		for i := range sizes {
			sizes[i] = next(bound)
		}
		behind := placesOf(sizes)
		for _, every := range []int{100 * bound, 10000 * bound, math.MaxInt} {
			l := build(t, sizes, every)
			if !Right(l) {
				t.Fatal("not right", bound, every)
			}
			for n := 0; n < len(sizes); n += 1 + next(900) {
				p, e := Find(l, n)
				if e != api.OK || p[0] > n || p[1] != behind[p[0]] || behind[n]-p[1] >= every {
					t.Fatal(bound, every, n, p, e)
				}
			}
		}
	}
}

// R2: of wrong arguments, in any mix, there is one error, and zeros beside it.
func TestZerosBesideErrors(t *testing.T) {
	refusesBuild(t, "both wrong", []int{1, -1}, 0)
	refusesBuild(t, "both wrong", same(65537, -1), -1)
	refusesFind(t, nil, -1)
	refusesFind(t, pairs(1, 1), -1)
	refusesFind(t, pairs(0, 0, 1, 1, 1, 1), 1)
	if l, e := Build([]int{5, 5, 5, -1}, 5); l != nil || e != api.ErrArg {
		t.Error(l, e)
	}
}

// R3: what is handed in stays as it is, its spare room too.
func TestHandedInStays(t *testing.T) {
	sizes := []int{4, 4, 4, 4, 77, 78, 79}
	before := slices.Clone(sizes)
	build(t, sizes[:4], 4)
	Build(sizes[:4], 0)
	Build(sizes[:0], 1)
	if !slices.Equal(sizes, before) {
		t.Error("Build changed the sizes:", sizes)
	}
	l := pairs(0, 0, 3, 30, 5, 50, 2, 2, 1, 1)
	held := slices.Clone(l)
	for n := range 9 {
		Find(l[:3], n)
		Find(l[:0], n)
		Find(l, n)
	}
	Right(l[:3])
	Right(l)
	if !slices.Equal(l, held) {
		t.Error("Find or Right changed the index:", l)
	}
}

// R3: what was answered does not hang on what was handed in any more, nor on other answers.
func TestAnswersAreNew(t *testing.T) {
	sizes := []int{4, 4, 4, 4, 4}
	want := pairs(0, 0, 1, 4, 2, 8, 3, 12, 4, 16)
	one, two := build(t, sizes, 4), build(t, sizes, 4)
	for i := range sizes {
		sizes[i] = 1000
	}
	if !slices.Equal(one, want) || !slices.Equal(two, want) {
		t.Error("an answer follows the sizes:", one, two)
	}
	for i := range one[:cap(one)] {
		one[:cap(one)][i] = [2]int{-7, -7}
	}
	if !slices.Equal(two, want) || !slices.Equal(build(t, same(5, 4), 4), want) {
		t.Error("an answer follows another one:", two)
	}
	p, _ := Find(two, 2)
	two[2] = [2]int{-9, -9}
	if p != [2]int{2, 8} {
		t.Error("a pair follows the index:", p)
	}
	p[0], p[1] = -1, -1
	if two[2] != [2]int{-9, -9} {
		t.Error("the index follows a pair:", two, p)
	}
	none, other := build(t, nil, 1), build(t, nil, 1)
	none[0] = [2]int{5, 5}
	if !slices.Equal(other, pairs(0, 0)) {
		t.Error("the index of none follows another one:", other)
	}
}

// R4 and R6: the same arguments have the same answers, however often, and none is like an empty list.
func TestAnswersAreAlways(t *testing.T) {
	for seed := range uint64(200) {
		sizes, every := drawn(seed)
		roomy := append(slices.Grow(slices.Clone(sizes), 300), 9, 9, 9)[:len(sizes)]
		l := build(t, sizes, every)
		if again := build(t, roomy, every); !slices.Equal(l, again) {
			t.Fatal(l, again)
		}
		build(t, same(9, 9), 9)
		if again := build(t, sizes, every); !slices.Equal(l, again) {
			t.Fatal(l, again)
		}
	}
	if Right([][2]int{}) || Right(nil) {
		t.Error("none is right")
	}
	refusesFind(t, [][2]int{}, 0)
	if !slices.Equal(build(t, nil, 1), build(t, []int{}, 1)) {
		t.Error("none and an empty list differ")
	}
}
