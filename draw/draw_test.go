package draw_test

import (
	"math"
	"math/big"
	"math/rand"
	"slices"
	"sync"
	"testing"

	"waybill/api"
	"waybill/draw"
	"waybill/hash"
)

// The document's numbers, written out.
const (
	stride      = 0x9e3779b97f4a7c15
	mostSkip    = 1073741824
	mostBelow   = 1048576
	mostShuffle = 1024
)

// moved is the state behind n draws, told by great numbers.
func moved(state uint64, n int) uint64 {
	step, _ := new(big.Int).SetString("9e3779b97f4a7c15", 16)
	step.Mul(step, big.NewInt(int64(n)))
	step.Add(step, new(big.Int).SetUint64(state))
	return step.Mod(step, new(big.Int).Lsh(big.NewInt(1), 64)).Uint64()
}

// ahead is the state whose next draw is x.
func ahead(x uint64) uint64 {
	return hash.Unmix(x) - stride
}

// share is x's highest 32 bits times n, through 2^32, told by great numbers.
func share(x uint64, n int) int {
	high := new(big.Int).SetUint64(x >> 32)
	high.Mul(high, big.NewInt(int64(n)))
	return int(high.Rsh(high, 32).Int64())
}

// slowBelow goes by the words of the chapter, the k-th draw straight from the first state.
func slowBelow(state uint64, l ...int) (uint64, []int) {
	var out []int
	for k, n := range l {
		out = append(out, share(hash.Mix(moved(state, k+1)), n))
	}
	return moved(state, len(l)), out
}

// slowShuffle goes by the words of the chapter: all draws first, then the places from the last to the second.
func slowShuffle(state uint64, n int) (uint64, []int) {
	var bounds, order []int
	for i := range n {
		order = append(order, i)
	}
	for place := n - 1; place >= 1; place-- {
		bounds = append(bounds, place+1)
	}
	behind, others := slowBelow(state, bounds...)
	for k, other := range others {
		place := n - 1 - k
		kept := order[place]
		order[place] = order[other]
		order[other] = kept
	}
	return behind, order
}

// slowTwo goes by the words of the chapter in another way: the second is one of those that are not the first.
func slowTwo(state uint64, n int) (uint64, int, int) {
	behind, l := slowBelow(state, n, n-1)
	rest := 0
	for number := range n {
		if number == l[0] {
			continue
		}
		if rest == l[1] {
			return behind, l[0], number
		}
		rest++
	}
	panic("no second")
}

// states are those at the ends of 64 bits, those around which the state or the draw is 0, and some by chance.
func states() []uint64 {
	l := []uint64{0, 1, 2, 5, 77, math.MaxUint64, math.MaxUint64 - 1, math.MaxInt64, 1 << 63, math.MaxUint32, 1 << 32, stride, stride - 1, stride + 1,
		moved(0, mostSkip), ahead(0), ahead(1), ahead(math.MaxUint64), ahead(math.MaxUint32), ahead(1 << 32), ahead(1 << 63), ahead(1<<63 - 1)}
	for i := range 8 {
		l = append(l, -uint64(i)*stride)
	}
	r := rand.New(rand.NewSource(11))
	for range 100 {
		l = append(l, r.Uint64())
	}
	return l
}

func TestNext(t *testing.T) {
	for _, c := range []struct{ state, behind, x uint64 }{
		{0, 0x9e3779b97f4a7c15, 0x9ca066f1a4ab2eea},
		{1, 0x9e3779b97f4a7c16, 0xe5fdc025e13eeed5},
		{5, 0x9e3779b97f4a7c1a, 0x6c45141841d3019f},
		{77, 0x9e3779b97f4a7c62, 0xac4a232e076d25bc},
		{1 << 63, 0x1e3779b97f4a7c15, 0x11c0b7745eb88d61},
		{math.MaxUint64, 0x9e3779b97f4a7c14, 0x25b775faeca8f520},
		{0x61c8864680b583eb, 0, 0},
		{0x9e3779b97f4a7c15, 0x3c6ef372fe94f82a, 0xd30b054265133dd7},
	} {
		if behind, x := draw.Next(c.state); behind != c.behind || x != c.x {
			t.Errorf("P11.1: Next(%x): %x %x, want %x %x", c.state, behind, x, c.behind, c.x)
		}
	}
	for _, s := range states() {
		if behind, x := draw.Next(s); behind != moved(s, 1) || x != hash.Mix(moved(s, 1)) {
			t.Errorf("P11.1: Next(%x): %x %x, want %x %x", s, behind, x, moved(s, 1), hash.Mix(moved(s, 1)))
		}
	}
}

// TestNextGoesOn: a draw hangs on the state alone, so that a row of draws can be drawn again from any of its states.
func TestNextGoesOn(t *testing.T) {
	const many = 1000
	row, at := make([]uint64, many), make([]uint64, many)
	s := uint64(9)
	for i := range many {
		at[i] = s
		s, row[i] = draw.Next(s)
	}
	for i := range many {
		if _, x := draw.Next(at[i]); x != row[i] {
			t.Errorf("P11.1: draw %d, drawn again: %x, want %x", i, x, row[i])
		}
	}
	slices.Sort(row)
	if n := len(slices.Compact(row)); n != many {
		t.Errorf("P11.1: %d draws are %d numbers", many, n)
	}
}

func TestSkip(t *testing.T) {
	for _, c := range []struct {
		state uint64
		n     int
		want  uint64
	}{
		{0, 0, 0},
		{7, 0, 7},
		{math.MaxUint64, 0, math.MaxUint64},
		{0, 1, 0x9e3779b97f4a7c15},
		{0, 2, 0x3c6ef372fe94f82a},
		{5, 3, 0xdaa66d2c7ddf7444},
		{math.MaxUint64, 1, 0x9e3779b97f4a7c14},
		{0, mostSkip, 0x5fd29f0540000000},
		{77, mostSkip, 0x5fd29f054000004d},
		{math.MaxUint64, mostSkip - 1, 0xc19b254bc0b583ea},
	} {
		if s, e := draw.Skip(c.state, c.n); s != c.want || e != api.OK {
			t.Errorf("P11.1: Skip(%x, %d): %x %d, want %x", c.state, c.n, s, e, c.want)
		}
	}
	for _, s := range states() {
		for _, n := range []int{0, 1, 2, 3, 10, 255, 256, 65535, 65536, 1 << 29, mostSkip - 1, mostSkip} {
			if behind, e := draw.Skip(s, n); behind != moved(s, n) || e != api.OK {
				t.Errorf("P11.1: Skip(%x, %d): %x %d, want %x", s, n, behind, e, moved(s, n))
			}
		}
	}
}

// TestSkipIsNext: what is skipped is just what would have been drawn.
func TestSkipIsNext(t *testing.T) {
	for _, first := range states() {
		s := first
		for n := range 50 {
			if behind, e := draw.Skip(first, n); behind != s || e != api.OK {
				t.Errorf("P11.1: Skip(%x, %d): %x %d, want %x", first, n, behind, e, s)
			}
			s, _ = draw.Next(s)
		}
	}
}

func TestSkipErrors(t *testing.T) {
	for _, s := range states() {
		for _, n := range []int{-1, -2, -mostSkip, mostSkip + 1, 2 * mostSkip, math.MaxInt32, math.MinInt32, 1 << 32, 1<<32 + 1, math.MaxInt, math.MinInt} {
			if behind, e := draw.Skip(s, n); behind != 0 || e != api.ErrRange {
				t.Errorf("P11.1: Skip(%x, %d): %x %d, want 0 and error %d", s, n, behind, e, api.ErrRange)
			}
		}
	}
}

func TestBelow(t *testing.T) {
	for _, c := range []struct {
		state  uint64
		l      []int
		behind uint64
		want   []int
	}{
		{0, nil, 0, nil},
		{5, []int{}, 5, nil},
		{0, []int{1}, 0x9e3779b97f4a7c15, []int{0}},
		{0, []int{10}, 0x9e3779b97f4a7c15, []int{6}},
		{0, []int{10, 10, 10}, 0xdaa66d2c7ddf743f, []int{6, 8, 8}},
		{5, []int{mostBelow, 1, 7}, 0xdaa66d2c7ddf7444, []int{443473, 0, 3}},
		{math.MaxUint64, []int{2, 3, mostBelow, mostBelow - 1}, 0x78dde6e5fd29f053, []int{0, 0, 371526, 157879}},
		{0x61c8864680b583eb, []int{mostBelow}, 0, []int{0}},
		{ahead(math.MaxUint64), []int{mostBelow}, hash.Unmix(math.MaxUint64), []int{mostBelow - 1}},
		{ahead(math.MaxUint64), []int{2}, hash.Unmix(math.MaxUint64), []int{1}},
		{ahead(1 << 63), []int{10}, hash.Unmix(1 << 63), []int{5}},
		{ahead(1<<63 - 1), []int{10}, hash.Unmix(1<<63 - 1), []int{4}},
	} {
		if behind, l, e := draw.Below(c.state, c.l...); behind != c.behind || !slices.Equal(l, c.want) || e != api.OK {
			t.Errorf("P11.1: Below(%x, %d): %x %d %d, want %x %d", c.state, c.l, behind, l, e, c.behind, c.want)
		}
	}
}

func TestBelowOfAny(t *testing.T) {
	bounds := []int{1, 2, 3, 7, 10, 16, 31, 32, 33, 1000, 1023, 1024, 4096, 65535, 65536, 65537, mostBelow/2 + 1, mostBelow - 1, mostBelow}
	r := rand.New(rand.NewSource(12))
	for _, s := range states() {
		lists := [][]int{bounds, bounds[:1], bounds[len(bounds)-1:]}
		for range 10 {
			var l []int
			for range r.Intn(20) {
				l = append(l, 1+r.Intn(mostBelow))
			}
			lists = append(lists, l)
		}
		for _, l := range lists {
			want, numbers := slowBelow(s, l...)
			if behind, got, e := draw.Below(s, l...); behind != want || !slices.Equal(got, numbers) || e != api.OK {
				t.Errorf("P11.1: Below(%x, %d): %x %d %d, want %x %d", s, l, behind, got, e, want, numbers)
			}
		}
	}
}

// TestBelowOfMany: no list is too long.
func TestBelowOfMany(t *testing.T) {
	const many = 1 << 18
	l := make([]int, many)
	for i := range l {
		l[i] = 1 + i%mostBelow
	}
	behind, got, e := draw.Below(3, l...)
	if behind != moved(3, many) || len(got) != many || e != api.OK {
		t.Fatalf("P11.1: Below of %d: %x, %d numbers, %d", many, behind, len(got), e)
	}
	for i, n := range got {
		if want := share(hash.Mix(3+uint64(i+1)*stride), l[i]); n != want {
			t.Fatalf("P11.1: Below of %d, number %d: %d, want %d", many, i, n, want)
		}
	}
}

// TestBelowErrors: one that is wrong, wherever it is, is as if all were.
func TestBelowErrors(t *testing.T) {
	wrong := []int{0, -1, -mostBelow, mostBelow + 1, 2 * mostBelow, math.MaxInt32, math.MinInt32, 1 << 32, 1<<32 + 1, 1<<32 + mostBelow, math.MaxInt, math.MinInt}
	for _, s := range []uint64{0, 5, 1 << 63, math.MaxUint64} {
		for _, n := range wrong {
			for _, l := range [][]int{{n}, {n, 1}, {1, n}, {mostBelow, n, mostBelow}, {1, 2, 3, n}, {n, n}} {
				if behind, got, e := draw.Below(s, l...); behind != 0 || len(got) != 0 || e != api.ErrRange {
					t.Errorf("P11.1: Below(%x, %d): %x %d %d, want 0, none and error %d", s, l, behind, got, e, api.ErrRange)
				}
			}
		}
	}
}

func TestShuffle(t *testing.T) {
	for _, c := range []struct {
		state  uint64
		n      int
		behind uint64
		want   []int
	}{
		{0, 0, 0, nil},
		{5, 0, 5, nil},
		{5, 1, 5, []int{0}},
		{math.MaxUint64, 1, math.MaxUint64, []int{0}},
		{0, 2, 0x9e3779b97f4a7c15, []int{0, 1}},
		{1, 2, 0x9e3779b97f4a7c16, []int{0, 1}},
		{5, 2, 0x9e3779b97f4a7c1a, []int{1, 0}},
		{0, 3, 0x3c6ef372fe94f82a, []int{0, 2, 1}},
		{5, 9, 0xf1bbcdcbfa53e0ad, []int{7, 4, 0, 2, 6, 5, 8, 1, 3}},
		{77, 12, 0xcc623af878335534, []int{4, 1, 7, 11, 3, 6, 0, 2, 10, 5, 9, 8}},
		{math.MaxUint64, 5, 0x78dde6e5fd29f053, []int{2, 4, 3, 1, 0}},
		{0x61c8864680b583eb, 4, 0x3c6ef372fe94f82a, []int{3, 2, 1, 0}},
	} {
		if behind, l, e := draw.Shuffle(c.state, c.n); behind != c.behind || !slices.Equal(l, c.want) || e != api.OK {
			t.Errorf("P11.2: Shuffle(%x, %d): %x %d %d, want %x %d", c.state, c.n, behind, l, e, c.behind, c.want)
		}
	}
}

func TestShuffleOfAny(t *testing.T) {
	for _, s := range states() {
		for _, n := range []int{0, 1, 2, 3, 4, 5, 8, 31, 32, 33} {
			want, order := slowShuffle(s, n)
			if behind, l, e := draw.Shuffle(s, n); behind != want || !slices.Equal(l, order) || e != api.OK {
				t.Errorf("P11.2: Shuffle(%x, %d): %x %d %d, want %x %d", s, n, behind, l, e, want, order)
			}
		}
	}
	for _, n := range []int{100, 511, 512, mostShuffle - 1, mostShuffle} {
		want, order := slowShuffle(77, n)
		if behind, l, e := draw.Shuffle(77, n); behind != want || !slices.Equal(l, order) || e != api.OK {
			t.Errorf("P11.2: Shuffle(77, %d): %x %d %d, want %x %d", n, behind, l, e, want, order)
		}
	}
}

// TestShuffleIsBelow: undone by what Below tells, from the second place up, an order is the first one again.
func TestShuffleIsBelow(t *testing.T) {
	for _, s := range states() {
		const n = 40
		var bounds []int
		for bound := n; bound > 1; bound-- {
			bounds = append(bounds, bound)
		}
		want, others, _ := draw.Below(s, bounds...)
		behind, l, e := draw.Shuffle(s, n)
		if behind != want || e != api.OK || len(l) != n {
			t.Fatalf("P11.2: Shuffle(%x, %d): %x %d %d, want the state %x", s, n, behind, l, e, want)
		}
		for place := 1; place < n; place++ {
			other := others[n-1-place]
			l[place], l[other] = l[other], l[place]
		}
		for i, number := range l {
			if i != number {
				t.Fatalf("P11.2: Shuffle(%x, %d) undone: %d", s, n, l)
			}
		}
	}
}

func TestShuffleErrors(t *testing.T) {
	for _, s := range states() {
		for _, n := range []int{-1, -2, -mostShuffle, mostShuffle + 1, 2 * mostShuffle, mostBelow, math.MaxInt32, math.MinInt32, 1 << 32, 1<<32 + 1, math.MaxInt, math.MinInt} {
			if behind, l, e := draw.Shuffle(s, n); behind != 0 || len(l) != 0 || e != api.ErrRange {
				t.Errorf("P11.2: Shuffle(%x, %d): %x %d %d, want 0, none and error %d", s, n, behind, l, e, api.ErrRange)
			}
		}
	}
}

func TestTwo(t *testing.T) {
	for _, c := range []struct {
		state         uint64
		n             int
		behind        uint64
		first, second int
	}{
		{0, 2, 0x3c6ef372fe94f82a, 1, 0},
		{1, 2, 0x3c6ef372fe94f82b, 1, 0},
		{5, 2, 0x3c6ef372fe94f82f, 0, 1},
		{0, 3, 0x3c6ef372fe94f82a, 1, 2},
		{5, 3, 0x3c6ef372fe94f82f, 1, 0},
		{6, 3, 0x3c6ef372fe94f830, 0, 2},
		{5, 10, 0x3c6ef372fe94f82f, 4, 1},
		{77, mostBelow, 0x3c6ef372fe94f877, 705698, 913960},
		{math.MaxUint64, mostBelow - 1, 0x3c6ef372fe94f829, 154487, 286311},
		{0x61c8864680b583eb, 2, 0x9e3779b97f4a7c15, 0, 1},
		{0xc3910c8d016b07d6, 5, 0, 4, 0},
	} {
		if behind, first, second, e := draw.Two(c.state, c.n); behind != c.behind || first != c.first || second != c.second || e != api.OK {
			t.Errorf("P11.2: Two(%x, %d): %x %d %d %d, want %x %d %d", c.state, c.n, behind, first, second, e, c.behind, c.first, c.second)
		}
	}
	for _, s := range states() {
		for _, n := range []int{2, 3, 4, 5, 31, 32, 33, 1000, 1024, 65537} {
			want, one, other := slowTwo(s, n)
			if behind, first, second, e := draw.Two(s, n); behind != want || first != one || second != other || e != api.OK {
				t.Errorf("P11.2: Two(%x, %d): %x %d %d %d, want %x %d %d", s, n, behind, first, second, e, want, one, other)
			}
		}
	}
}

// TestTwoTellsAllPairs: of few numbers each is the first and the second of each other one.
func TestTwoTellsAllPairs(t *testing.T) {
	for n := 2; n <= 6; n++ {
		seen := map[[2]int]bool{}
		s := uint64(n)
		for range 2000 {
			var first, second int
			s, first, second, _ = draw.Two(s, n)
			seen[[2]int{first, second}] = true
		}
		if len(seen) != n*(n-1) {
			t.Errorf("P11.2: Two of %d tells %d pairs, want %d", n, len(seen), n*(n-1))
		}
	}
}

func TestTwoErrors(t *testing.T) {
	for _, s := range states() {
		for _, n := range []int{1, 0, -1, -2, -mostBelow, mostBelow + 1, 2 * mostBelow, math.MaxInt32, math.MinInt32, 1 << 32, 1<<32 + 2, math.MaxInt, math.MinInt} {
			if behind, first, second, e := draw.Two(s, n); behind != 0 || first != 0 || second != 0 || e != api.ErrRange {
				t.Errorf("P11.2: Two(%x, %d): %x %d %d %d, want zeros and error %d", s, n, behind, first, second, e, api.ErrRange)
			}
		}
	}
}

func TestChance(t *testing.T) {
	for _, c := range []struct {
		state, behind uint64
		drawn         int
	}{
		{0, 0x9e3779b97f4a7c15, 611},
		{1, 0x9e3779b97f4a7c16, 898},
		{5, 0x9e3779b97f4a7c1a, 422},
		{77, 0x9e3779b97f4a7c62, 673},
		{math.MaxUint64, 0x9e3779b97f4a7c14, 147},
		{0x61c8864680b583eb, 0, 0},
		{ahead(math.MaxUint64), hash.Unmix(math.MaxUint64), 999},
		{ahead(1 << 63), hash.Unmix(1 << 63), 500},
		{ahead(1<<63 - 1), hash.Unmix(1<<63 - 1), 499},
	} {
		for mille := range 1001 {
			if behind, is, e := draw.Chance(c.state, mille); behind != c.behind || is != (c.drawn < mille) || e != api.OK {
				t.Errorf("P11.2: Chance(%x, %d): %x %t %d, want %x %t", c.state, mille, behind, is, e, c.behind, c.drawn < mille)
			}
		}
	}
	for _, s := range states() {
		want, drawn := slowBelow(s, 1000)
		for _, mille := range []int{0, 1, drawn[0], drawn[0] + 1, 500, 999, 1000} {
			if behind, is, e := draw.Chance(s, mille); behind != want || is != (drawn[0] < mille) || e != api.OK {
				t.Errorf("P11.2: Chance(%x, %d): %x %t %d, want %x %t", s, mille, behind, is, e, want, drawn[0] < mille)
			}
		}
	}
}

// TestChanceOfMany: 0 is never, 1000 is always, and what is between is about as often as it says.
func TestChanceOfMany(t *testing.T) {
	const many = 20000
	for _, mille := range []int{0, 1, 10, 250, 500, 900, 999, 1000} {
		s, times := uint64(mille), 0
		for range many {
			var is bool
			s, is, _ = draw.Chance(s, mille)
			if is {
				times++
			}
		}
		if s != moved(uint64(mille), many) {
			t.Errorf("P11.2: Chance of %d, %d times: the state %x, want %x", mille, many, s, moved(uint64(mille), many))
		}
		if want := mille * many / 1000; times < want-want/10-20 || times > want+200 || mille%1000 == 0 && times != want {
			t.Errorf("P11.2: Chance of %d, %d times: true %d times", mille, many, times)
		}
	}
}

func TestChanceErrors(t *testing.T) {
	for _, s := range states() {
		for _, mille := range []int{-1, -2, -1000, 1001, 1024, 2000, mostBelow, math.MaxInt32, math.MinInt32, 1 << 32, 1<<32 + 500, math.MaxInt, math.MinInt} {
			if behind, is, e := draw.Chance(s, mille); behind != 0 || is || e != api.ErrRange {
				t.Errorf("P11.2: Chance(%x, %d): %x %t %d, want 0, false and error %d", s, mille, behind, is, e, api.ErrRange)
			}
		}
	}
}

// TestShuffleHasEachOnce: whatever the state and however many.
func TestShuffleHasEachOnce(t *testing.T) {
	s := uint64(4)
	for n := range mostShuffle + 1 {
		var l []int
		s, l, _ = draw.Shuffle(s, n)
		times := make([]int, n)
		for _, number := range l {
			if number < 0 || number >= n {
				t.Fatalf("P11.3: Shuffle of %d has %d", n, number)
			}
			times[number]++
		}
		for number, k := range times {
			if k != 1 {
				t.Fatalf("P11.3: Shuffle of %d has %d %d times", n, number, k)
			}
		}
	}
}

// TestShuffleTellsAllOrders: of four numbers each order is told, about as often as the others.
func TestShuffleTellsAllOrders(t *testing.T) {
	const many = 24000
	times := map[[4]int]int{}
	s := uint64(8)
	for range many {
		var l []int
		s, l, _ = draw.Shuffle(s, 4)
		times[[4]int(l)]++
	}
	if len(times) != 24 {
		t.Errorf("P11.3: Shuffle of 4 tells %d orders, want 24", len(times))
	}
	for order, k := range times {
		if k < 800 || k > 1200 {
			t.Errorf("P11.3: Shuffle of 4 tells %d %d times of %d", order, k, many)
		}
	}
}

// TestTwoAreTwo: whatever the state and however many.
func TestTwoAreTwo(t *testing.T) {
	r := rand.New(rand.NewSource(13))
	for _, n := range []int{2, 3, 4, 7, 32, 1000, mostBelow - 1, mostBelow} {
		l := states()
		for range 2000 {
			l = append(l, r.Uint64())
		}
		for _, s := range l {
			_, first, second, e := draw.Two(s, n)
			if first == second || first < 0 || first >= n || second < 0 || second >= n || e != api.OK {
				t.Errorf("P11.3: Two(%x, %d): %d %d %d", s, n, first, second, e)
			}
		}
	}
}

// TestTwoWhereBothDrawsMeet: a second draw one below the first, as high, and one above.
func TestTwoWhereBothDrawsMeet(t *testing.T) {
	met := [3]int{}
	for n := 2; n <= 9; n++ {
		s := uint64(n) << 32
		for range 2000 {
			_, l, _ := draw.Below(s, n, n-1)
			behind, first, second, _ := draw.Two(s, n)
			want := l[1]
			if by := l[1] - l[0]; by >= -1 && by <= 1 {
				met[by+1]++
			}
			if l[1] >= l[0] {
				want = l[1] + 1
			}
			if first != l[0] || second != want {
				t.Errorf("P11.3: Two(%x, %d): %d %d, want %d %d", s, n, first, second, l[0], want)
			}
			s = behind
		}
	}
	if slices.Contains(met[:], 0) {
		t.Errorf("P11.3: draws that meet were told %d times", met)
	}
}

// TestNotChanged: what is handed in stays, with the room behind it.
func TestNotChanged(t *testing.T) {
	l := []int{9, 8, 7, 6, 5, 4}
	before := slices.Clone(l)
	for range 3 {
		draw.Below(7, l[:3]...)
		draw.Below(7, l[:0]...)
	}
	if !slices.Equal(l, before) {
		t.Errorf("P11.4: Below changes what it is given: %d", l)
	}
}

// TestNewMemory: an answer that is written over, to the end of its room, changes no argument and no other answer.
func TestNewMemory(t *testing.T) {
	bounds := []int{9, 8, 7, 6}
	spoil := func(l []int) {
		l = l[:cap(l)]
		for i := range l {
			l[i] = -1
		}
	}
	_, below, _ := draw.Below(7, bounds...)
	_, shuffled, _ := draw.Shuffle(7, 9)
	keptBelow, keptShuffled := slices.Clone(below), slices.Clone(shuffled)
	_, l, _ := draw.Below(7, bounds...)
	spoil(l)
	_, l, _ = draw.Shuffle(7, 9)
	spoil(l)
	if !slices.Equal(below, keptBelow) || !slices.Equal(shuffled, keptShuffled) {
		t.Errorf("P11.4: two answers share memory: %d %d", below, shuffled)
	}
	spoil(below)
	spoil(shuffled)
	if !slices.Equal(bounds, []int{9, 8, 7, 6}) {
		t.Errorf("P11.4: Below's answer shares memory with its argument: %d", bounds)
	}
	_, below, _ = draw.Below(7, bounds...)
	_, shuffled, _ = draw.Shuffle(7, 9)
	if !slices.Equal(below, keptBelow) || !slices.Equal(shuffled, keptShuffled) {
		t.Errorf("P11.4: an answer shares memory with what is kept: %d %d", below, shuffled)
	}
}

// TestNotKept: a list that is changed behind a call changes no answer, and calls know nothing of each other.
func TestNotKept(t *testing.T) {
	l := []int{100, 200}
	_, below, _ := draw.Below(7, l...)
	kept := slices.Clone(below)
	l[0], l[1] = 1, 1
	if !slices.Equal(below, kept) {
		t.Errorf("P11.4: Below keeps what it was given: %d", below)
	}
	draw.Next(8)
	draw.Skip(8, -1)
	draw.Shuffle(8, 2000)
	draw.Two(8, 5)
	draw.Chance(8, 500)
	if _, again, _ := draw.Below(7, 100, 200); !slices.Equal(again, kept) {
		t.Errorf("P11.4: Below hangs on the calls ahead: %d, want %d", again, kept)
	}
}

// TestAtOnce: goroutines that call at the same time are told what one is told.
func TestAtOnce(t *testing.T) {
	ask := func() []int {
		_, l, _ := draw.Below(5, 10, 20, 30)
		_, order, _ := draw.Shuffle(5, 20)
		_, first, second, _ := draw.Two(5, 20)
		return append(slices.Concat(l, order), first, second)
	}
	want := ask()
	got := make([][]int, 16)
	var all sync.WaitGroup
	for i := range got {
		all.Go(func() {
			for range 200 {
				got[i] = ask()
			}
		})
	}
	all.Wait()
	for i, g := range got {
		if !slices.Equal(g, want) {
			t.Errorf("P11.4: goroutine %d is told %d, want %d", i, g, want)
		}
	}
}

// FuzzDraw holds P11.1 to P11.3 for states and numbers of any kind.
func FuzzDraw(f *testing.F) {
	f.Add(uint64(0), 0, 0)
	f.Add(uint64(5), 9, 1000)
	f.Add(uint64(math.MaxUint64), mostBelow, mostBelow+1)
	f.Add(ahead(0), mostShuffle, math.MinInt)
	f.Fuzz(func(t *testing.T, s uint64, n, k int) {
		skipOf(t, s, n)
		belowOf(t, s, n, k)
		shuffleOf(t, s, n)
		twoOf(t, s, n)
		chanceOf(t, s, k)
	})
}

func skipOf(t *testing.T, s uint64, n int) {
	want, wrong := uint64(0), api.ErrRange
	if n >= 0 && n <= mostSkip {
		want, wrong = moved(s, n), api.OK
	}
	if behind, e := draw.Skip(s, n); behind != want || e != wrong {
		t.Errorf("P11.1: Skip(%x, %d): %x %d, want %x %d", s, n, behind, e, want, wrong)
	}
}

func belowOf(t *testing.T, s uint64, n, k int) {
	want, numbers, wrong := uint64(0), []int(nil), api.ErrRange
	if min(n, k) >= 1 && max(n, k) <= mostBelow {
		want, numbers = slowBelow(s, n, k)
		wrong = api.OK
	}
	if behind, l, e := draw.Below(s, n, k); behind != want || !slices.Equal(l, numbers) || e != wrong {
		t.Errorf("P11.1: Below(%x, %d, %d): %x %d %d, want %x %d %d", s, n, k, behind, l, e, want, numbers, wrong)
	}
}

func shuffleOf(t *testing.T, s uint64, n int) {
	want, order, wrong := uint64(0), []int(nil), api.ErrRange
	if n >= 0 && n <= mostShuffle {
		want, order = slowShuffle(s, n)
		wrong = api.OK
	}
	behind, l, e := draw.Shuffle(s, n)
	if behind != want || !slices.Equal(l, order) || e != wrong {
		t.Errorf("P11.2: Shuffle(%x, %d): %x %d %d, want %x %d %d", s, n, behind, l, e, want, order, wrong)
	}
	slices.Sort(l)
	for i, number := range l {
		if i != number {
			t.Fatalf("P11.3: Shuffle(%x, %d) has not each number once", s, n)
		}
	}
}

func twoOf(t *testing.T, s uint64, n int) {
	want, one, other, wrong := uint64(0), 0, 0, api.ErrRange
	if n >= 2 && n <= mostBelow {
		want, one, other = slowTwo(s, n)
		wrong = api.OK
	}
	behind, first, second, e := draw.Two(s, n)
	if behind != want || first != one || second != other || e != wrong {
		t.Errorf("P11.2: Two(%x, %d): %x %d %d %d, want %x %d %d %d", s, n, behind, first, second, e, want, one, other, wrong)
	}
	if e == api.OK && first == second {
		t.Errorf("P11.3: Two(%x, %d): %d twice", s, n, first)
	}
}

func chanceOf(t *testing.T, s uint64, mille int) {
	want, is, wrong := uint64(0), false, api.ErrRange
	if mille >= 0 && mille <= 1000 {
		behind, l := slowBelow(s, 1000)
		want, is, wrong = behind, l[0] < mille, api.OK
	}
	if behind, got, e := draw.Chance(s, mille); behind != want || got != is || e != wrong {
		t.Errorf("P11.2: Chance(%x, %d): %x %t %d, want %x %t %d", s, mille, behind, got, e, want, is, wrong)
	}
}
