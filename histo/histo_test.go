package histo_test

import (
	"math"
	"math/big"
	"math/rand"
	"slices"
	"strconv"
	"sync"
	"testing"

	"waybill/api"
	"waybill/histo"
)

// The document's numbers, written out.
const (
	allBuckets = 81
	mostNumber = 1048576
	mostTotal  = 1073741824
)

// far are numbers that are beyond all that is counted.
var far = []int{mostNumber + 1, 2 * mostNumber, math.MaxInt32, 1 << 31, 1 << 32, 1<<32 + 20, 1 << 62, math.MaxInt - 1, math.MaxInt}

// below are numbers that nothing here may be.
var below = []int{-1, -2, -15, -16, -20, -mostNumber, -mostTotal, math.MinInt32, -1 << 32, math.MinInt + 1, math.MinInt}

// slowBucket goes by the number's bits as a text: how many are behind the highest one, and the two next to it.
func slowBucket(n int) (int, api.Errno) {
	if n < 0 {
		return 0, api.ErrRange
	}
	if n > mostNumber {
		n = mostNumber
	}
	if n <= 15 {
		return n, api.OK
	}
	text := strconv.FormatInt(int64(n), 2)
	k := len(text) - 1
	two := map[string]int{"00": 0, "01": 1, "10": 2, "11": 3}[text[1:3]]
	return 16 + 4*(k-4) + two, api.OK
}

// slowTops are the greatest numbers of all buckets, by asking all numbers.
var slowTops = sync.OnceValue(func() []int {
	tops := make([]int, allBuckets)
	for n := range mostNumber + 1 {
		bucket, _ := slowBucket(n)
		tops[bucket] = n
	}
	return tops
})

func slowTop(bucket int) (int, api.Errno) {
	if bucket < 0 || bucket > 80 {
		return 0, api.ErrRange
	}
	return slowTops()[bucket], api.OK
}

// slowCheck sums without an end, as Total must be the sum, not what is left of it.
func slowCheck(h api.Histo) api.Errno {
	switch len(h.Counts) {
	case 0, allBuckets:
	default:
		return api.ErrState
	}
	sum := new(big.Int)
	for _, n := range h.Counts {
		if n < 0 || n > mostTotal {
			return api.ErrState
		}
		sum.Add(sum, big.NewInt(int64(n)))
	}
	if sum.Cmp(big.NewInt(int64(h.Total))) != 0 || sum.Cmp(big.NewInt(mostTotal)) > 0 {
		return api.ErrState
	}
	return api.OK
}

// slowAdd puts numbers in one by one, each into a list of its own.
func slowAdd(h api.Histo, l []int) (api.Histo, api.Errno) {
	if e := slowCheck(h); e != api.OK {
		return api.Histo{}, e
	}
	for _, n := range l {
		if n < 0 {
			return api.Histo{}, api.ErrRange
		}
	}
	counts := make([]int, allBuckets)
	copy(counts, h.Counts)
	total := h.Total
	for _, n := range l {
		if total == mostTotal {
			return api.Histo{}, api.ErrFull
		}
		bucket, _ := slowBucket(n)
		counts[bucket]++
		total++
	}
	return api.Histo{Counts: counts, Total: total}, api.OK
}

// slowQuantile looks for the first bucket by which a thousand times what was met is no less than mille times Total.
func slowQuantile(h api.Histo, mille int) (int, api.Errno) {
	if e := slowCheck(h); e != api.OK {
		return 0, e
	}
	if mille < 1 || mille > 1000 {
		return 0, api.ErrRange
	}
	if h.Total == 0 {
		return 0, api.ErrNone
	}
	want := new(big.Int).Mul(big.NewInt(int64(mille)), big.NewInt(int64(h.Total)))
	met := new(big.Int)
	for bucket, n := range h.Counts {
		met.Add(met, new(big.Int).Mul(big.NewInt(1000), big.NewInt(int64(n))))
		if met.Cmp(want) >= 0 {
			return slowTop(bucket)
		}
	}
	panic("no such bucket")
}

func slowMerge(l []api.Histo) (api.Histo, api.Errno) {
	for _, h := range l {
		if e := slowCheck(h); e != api.OK {
			return api.Histo{}, e
		}
	}
	var sum api.Histo
	for _, h := range l {
		if len(h.Counts) == 0 {
			continue
		}
		if sum.Counts == nil {
			sum.Counts = make([]int, allBuckets)
		}
		for i := range allBuckets {
			sum.Counts[i] += h.Counts[i]
		}
		sum.Total += h.Total
		if sum.Total > mostTotal {
			return api.Histo{}, api.ErrFull
		}
	}
	return sum, api.OK
}

// same takes no Counts and empty ones as one.
func same(a, b api.Histo) bool {
	return a.Total == b.Total && slices.Equal(a.Counts, b.Counts)
}

func agree(t *testing.T, h api.Histo, mille int) {
	t.Helper()
	if e, wrong := histo.Check(h), slowCheck(h); e != wrong {
		t.Fatalf("P19.1: Check(%v): %d, want %d", h, e, wrong)
	}
	want, wrong := slowQuantile(h, mille)
	if n, e := histo.Quantile(h, mille); n != want || e != wrong {
		t.Fatalf("P19.1: Quantile(%v, %d): %d %d, want %d %d", h, mille, n, e, want, wrong)
	}
}

func agreeOnAdd(t *testing.T, h api.Histo, l ...int) {
	t.Helper()
	want, wrong := slowAdd(h, l)
	if out, e := histo.Add(h, l...); !same(out, want) || e != wrong {
		t.Fatalf("P19.1: Add(%v, %v): %v %d, want %v %d", h, l, out, e, want, wrong)
	}
}

func agreeOnMerge(t *testing.T, l ...api.Histo) {
	t.Helper()
	want, wrong := slowMerge(l)
	if out, e := histo.Merge(l...); !same(out, want) || e != wrong {
		t.Fatalf("P19.2: Merge(%v): %v %d, want %v %d", l, out, e, want, wrong)
	}
}

// made is a histogram of pairs, a bucket and how many it has each.
func made(pairs ...int) api.Histo {
	h := api.Histo{Counts: make([]int, allBuckets)}
	for i := 0; i < len(pairs); i += 2 {
		h.Counts[pairs[i]] += pairs[i+1]
		h.Total += pairs[i+1]
	}
	return h
}

// clone shares no memory with h.
func clone(h api.Histo) api.Histo {
	return api.Histo{Counts: slices.Clone(h.Counts), Total: h.Total}
}

// wrongs are histograms that may not be.
func wrongs() []api.Histo {
	l := []api.Histo{
		{Total: 1}, {Total: -1}, {Total: mostTotal}, {Total: math.MinInt}, {Total: math.MaxInt}, {Counts: []int{}, Total: 1},
		{Counts: make([]int, allBuckets), Total: 1}, {Counts: make([]int, allBuckets), Total: -1},
	}
	for _, size := range []int{1, 2, 16, 79, 80, 82, 83, 162, 256 + allBuckets, 1<<16 + allBuckets} {
		l = append(l, api.Histo{Counts: make([]int, size)})
		one := api.Histo{Counts: make([]int, size), Total: 1}
		one.Counts[size-1] = 1
		l = append(l, one)
	}
	for _, pairs := range [][]int{
		// Below 0, with a sum that may be.
		{0, -1}, {80, -1}, {0, -1, 80, 1}, {0, 2, 80, -1}, {0, math.MinInt, 1, math.MaxInt, 2, 1}, {40, math.MinInt}, {3, -mostTotal, 4, mostTotal},
		// Above 2^30, each alone or all of them.
		{0, mostTotal + 1}, {80, mostTotal + 1}, {0, mostTotal + 1, 1, -1}, {0, mostTotal, 1, 1}, {0, 1, 80, mostTotal}, {0, mostTotal / 2, 1, mostTotal / 2, 2, 1}, {5, mostTotal, 6, mostTotal},
		{0, mostTotal, 1, mostTotal, 2, mostTotal, 3, mostTotal},
		// Sums that come round to what may be.
		{0, math.MaxInt, 1, math.MaxInt, 2, 2}, {0, math.MaxInt, 1, math.MaxInt, 2, 7}, {0, math.MinInt, 1, math.MinInt}, {0, math.MinInt, 1, math.MinInt, 2, 5}, {0, 1 << 62, 1, 1 << 62, 2, 1 << 62, 3, 1 << 62},
		{7, math.MaxInt}, {7, 1 << 32}, {7, 1<<32 + 1},
	} {
		l = append(l, made(pairs...))
	}
	for _, off := range []int{-2, -1, 1, 2, 1 << 31, 1 << 32, -1 << 32, math.MinInt, math.MaxInt - 12} {
		h := made(0, 3, 17, 4, 80, 5)
		h.Total += off
		l = append(l, h)
	}
	return l
}

// rights are histograms that may be.
func rights() []api.Histo {
	return []api.Histo{
		{}, {Counts: []int{}}, made(), made(0, 1), made(80, 1), made(17, 1), made(0, 1, 80, 1), made(15, 3, 16, 2), made(40, 1000), made(1, 333, 2, 333, 3, 334),
		made(0, mostTotal), made(80, mostTotal), made(0, mostTotal-1), made(0, 1, 80, mostTotal-1), made(0, mostTotal-1, 80, 1), made(39, mostTotal/2, 40, mostTotal/2), made(39, mostTotal/2-1, 40, mostTotal/2),
		made(3, mostTotal-5), made(3, 1<<20, 4, 1<<20, 60, 7),
	}
}

// TestExamples: the chapter's.
func TestExamples(t *testing.T) {
	for _, c := range [][2]int{{16, 16}, {20, 17}} {
		if n, e := histo.Bucket(c[0]); n != c[1] || e != api.OK {
			t.Errorf("P19.1: Bucket(%d): %d %d, want %d", c[0], n, e, c[1])
		}
	}
	if n, e := histo.Top(17); n != 23 || e != api.OK {
		t.Errorf("P19.1: Top(17): %d %d, want 23", n, e)
	}
}

func TestBucket(t *testing.T) {
	for _, c := range []struct{ n, want int }{
		{0, 0}, {1, 1}, {2, 2}, {7, 7}, {8, 8}, {14, 14}, {15, 15},
		{16, 16}, {17, 16}, {19, 16}, {20, 17}, {23, 17}, {24, 18}, {27, 18}, {28, 19}, {31, 19},
		{32, 20}, {39, 20}, {40, 21}, {47, 21}, {48, 22}, {55, 22}, {56, 23}, {63, 23}, {64, 24}, {79, 24}, {80, 25},
		{1000, 39}, {1023, 39}, {1024, 40}, {1279, 40}, {1280, 41}, {65535, 63}, {65536, 64},
		{524288, 76}, {655359, 76}, {655360, 77}, {786431, 77}, {786432, 78}, {917503, 78}, {917504, 79}, {1048575, 79},
		{1048576, 80}, {1048577, 80}, {1310720, 80}, {2097152, 80}, {math.MaxInt32, 80}, {1 << 32, 80}, {1<<32 + 3, 80}, {math.MaxInt, 80},
	} {
		if bucket, e := histo.Bucket(c.n); bucket != c.want || e != api.OK {
			t.Errorf("P19.1: Bucket(%d): %d %d, want %d", c.n, bucket, e, c.want)
		}
	}
	for _, n := range below {
		if bucket, e := histo.Bucket(n); bucket != 0 || e != api.ErrRange {
			t.Errorf("P19.1: Bucket(%d): %d %d, want 0 and %d", n, bucket, e, api.ErrRange)
		}
	}
	for _, n := range far {
		if bucket, e := histo.Bucket(n); bucket != 80 || e != api.OK {
			t.Errorf("P19.1: Bucket(%d): %d %d, want 80", n, bucket, e)
		}
	}
}

// TestBucketOfAll: all numbers up to beyond the last bucket's top; a greater number has no lower bucket, and none is left out.
func TestBucketOfAll(t *testing.T) {
	before := -1
	for n := range mostNumber + 1000 {
		want, _ := slowBucket(n)
		bucket, e := histo.Bucket(n)
		if bucket != want || e != api.OK {
			t.Fatalf("P19.1: Bucket(%d): %d %d, want %d", n, bucket, e, want)
		}
		if bucket != before && bucket != before+1 {
			t.Fatalf("P19.1: Bucket(%d) is %d, behind %d", n, bucket, before)
		}
		before = bucket
	}
	if before != allBuckets-1 {
		t.Errorf("P19.1: the last bucket is %d, want 80", before)
	}
}

func TestTop(t *testing.T) {
	for _, c := range []struct{ bucket, want int }{
		{0, 0}, {1, 1}, {14, 14}, {15, 15}, {16, 19}, {17, 23}, {18, 27}, {19, 31}, {20, 39}, {21, 47}, {22, 55}, {23, 63}, {24, 79},
		{39, 1023}, {40, 1279}, {63, 65535}, {76, 655359}, {77, 786431}, {78, 917503}, {79, 1048575}, {80, 1048576},
	} {
		if n, e := histo.Top(c.bucket); n != c.want || e != api.OK {
			t.Errorf("P19.1: Top(%d): %d %d, want %d", c.bucket, n, e, c.want)
		}
	}
	for _, bucket := range append(slices.Concat(below, far), 81, 82, 255, 256, 256+17, 1<<16+17, mostNumber) {
		if n, e := histo.Top(bucket); n != 0 || e != api.ErrRange {
			t.Errorf("P19.1: Top(%d): %d %d, want 0 and %d", bucket, n, e, api.ErrRange)
		}
	}
}

// TestTopIsLast: a bucket has its top, and the next number is the next bucket's.
func TestTopIsLast(t *testing.T) {
	for bucket := range allBuckets {
		want, _ := slowTop(bucket)
		top, e := histo.Top(bucket)
		if top != want || e != api.OK {
			t.Errorf("P19.1: Top(%d): %d %d, want %d", bucket, top, e, want)
		}
		if n, e := histo.Bucket(top); n != bucket || e != api.OK {
			t.Errorf("P19.1: Bucket(%d): %d %d, want %d, whose top it is", top, n, e, bucket)
		}
		if n, e := histo.Bucket(top + 1); n != min(bucket+1, 80) || e != api.OK {
			t.Errorf("P19.1: Bucket(%d): %d %d, want %d, as %d is a top", top+1, n, e, min(bucket+1, 80), top)
		}
	}
}

func TestCheck(t *testing.T) {
	for _, h := range rights() {
		if e := histo.Check(h); e != api.OK {
			t.Errorf("P19.1: Check(%v): %d, want none", h, e)
		}
	}
	for _, h := range wrongs() {
		if e := histo.Check(h); e != api.ErrState {
			t.Errorf("P19.1: Check(%v): %d, want %d", h, e, api.ErrState)
		}
	}
}

// TestCheckOfEach: each of the Counts, at the ends of what it may be, and next to them.
func TestCheckOfEach(t *testing.T) {
	for bucket := range allBuckets {
		for _, n := range []int{0, 1, mostTotal - 1, mostTotal} {
			if e := histo.Check(made(bucket, n)); e != api.OK {
				t.Errorf("P19.1: Check of %d in bucket %d: %d, want none", n, bucket, e)
			}
		}
		for _, n := range append([]int{mostTotal + 1, 1 << 31, 1 << 32, math.MaxInt}, below...) {
			if e := histo.Check(made(bucket, n)); e != api.ErrState {
				t.Errorf("P19.1: Check of %d in bucket %d: %d, want %d", n, bucket, e, api.ErrState)
			}
		}
		other := (bucket + 37) % allBuckets
		if e := histo.Check(made(bucket, -1, other, 5)); e != api.ErrState {
			t.Errorf("P19.1: Check of -1 in bucket %d, beside 5: %d, want %d", bucket, e, api.ErrState)
		}
		if e := histo.Check(made(bucket, 1, other, mostTotal)); e != api.ErrState {
			t.Errorf("P19.1: Check of 2^30 and 1 in bucket %d: %d, want %d", bucket, e, api.ErrState)
		}
		left := made(0, 1, 40, 2, 80, 3)
		left.Counts[bucket]++
		if e := histo.Check(left); e != api.ErrState {
			t.Errorf("P19.1: Check of one more in bucket %d than Total tells: %d, want %d", bucket, e, api.ErrState)
		}
	}
}

// TestStateGoesAhead: each call tells a wrong histogram ahead of all else, and nothing beside it.
func TestStateGoesAhead(t *testing.T) {
	for _, h := range wrongs() {
		for _, l := range [][]int{nil, {}, {1, 2}, {-1}, {5, math.MinInt}} {
			if out, e := histo.Add(h, l...); out.Counts != nil || out.Total != 0 || e != api.ErrState {
				t.Errorf("P19.1: Add(%v, %v): %v %d, want nothing and %d", h, l, out, e, api.ErrState)
			}
		}
		for _, mille := range []int{math.MinInt, -1, 0, 1, 500, 1000, 1001, math.MaxInt} {
			if n, e := histo.Quantile(h, mille); n != 0 || e != api.ErrState {
				t.Errorf("P19.1: Quantile(%v, %d): %d %d, want 0 and %d", h, mille, n, e, api.ErrState)
			}
		}
		for _, l := range [][]api.Histo{{h}, {h, h}, {{}, h}, {h, {}}, {made(1, 1), h}, {h, made(1, 1)}, {made(1, mostTotal), made(1, mostTotal), h}, {h, made(1, mostTotal), made(1, mostTotal)}} {
			if out, e := histo.Merge(l...); out.Counts != nil || out.Total != 0 || e != api.ErrState {
				t.Errorf("P19.2: Merge(%v): %v %d, want nothing and %d", l, out, e, api.ErrState)
			}
		}
	}
}

func TestAdd(t *testing.T) {
	for _, c := range []struct {
		h    api.Histo
		l    []int
		want api.Histo
	}{
		{api.Histo{}, nil, made()},
		{api.Histo{}, []int{}, made()},
		{api.Histo{Counts: []int{}}, nil, made()},
		{made(), nil, made()},
		{made(4, 7), nil, made(4, 7)},
		{api.Histo{}, []int{0}, made(0, 1)},
		{api.Histo{}, []int{1, 2, 20}, made(1, 1, 2, 1, 17, 1)},
		{api.Histo{Counts: []int{}}, []int{15, 16, 17, 16}, made(15, 1, 16, 3)},
		{made(17, 5, 80, 2), []int{23, 20, 24, 1048576, 1048575, math.MaxInt, 1 << 32}, made(17, 7, 18, 1, 79, 1, 80, 5)},
		{made(0, mostTotal-1), []int{0}, made(0, mostTotal)},
		{made(0, mostTotal-1), []int{9}, made(0, mostTotal-1, 9, 1)},
		{made(80, mostTotal-3), []int{1, 1, 1}, made(80, mostTotal-3, 1, 3)},
		{made(80, mostTotal), nil, made(80, mostTotal)},
	} {
		if out, e := histo.Add(c.h, c.l...); !same(out, c.want) || e != api.OK {
			t.Errorf("P19.1: Add(%v, %v): %v %d, want %v", c.h, c.l, out, e, c.want)
		}
		agreeOnAdd(t, c.h, c.l...)
	}
}

// TestAddErrors: a number below 0 goes ahead of too many, wherever it stands, and nothing is told beside an error.
func TestAddErrors(t *testing.T) {
	full, nearly := made(3, mostTotal), made(3, mostTotal-3)
	ask := func(want api.Errno, h api.Histo, l ...int) {
		t.Helper()
		if out, e := histo.Add(h, l...); out.Counts != nil || out.Total != 0 || e != want {
			t.Errorf("P19.1: Add(%v, %v): %v %d, want nothing and %d", h, l, out, e, want)
		}
	}
	for _, n := range below {
		for _, h := range []api.Histo{{}, made(), made(3, 5), nearly, full} {
			ask(api.ErrRange, h, n)
			ask(api.ErrRange, h, n, 1, 2, 3, 4)
			ask(api.ErrRange, h, 1, 2, n, 3, 4)
			ask(api.ErrRange, h, 1, 2, 3, 4, 5, 6, n)
		}
	}
	ask(api.ErrFull, full, 0)
	ask(api.ErrFull, full, math.MaxInt)
	ask(api.ErrFull, full, 1, 2, 3)
	ask(api.ErrFull, nearly, 1, 2, 3, 4)
	ask(api.ErrFull, nearly, make([]int, 5000)...)
	ask(api.ErrFull, made(0, mostTotal/2, 80, mostTotal/2), 40)
	// Of too many, wherever they are counted.
	ask(api.ErrFull, made(3, mostTotal-4999), make([]int, 5000)...)
	agreeOnAdd(t, made(3, mostTotal-5000), make([]int, 5000)...)
}

// TestAddEach: a number of each bucket, at both its ends, makes one more there and nowhere else.
func TestAddEach(t *testing.T) {
	least := 0
	for bucket := range allBuckets {
		top, _ := histo.Top(bucket)
		for _, h := range []api.Histo{{}, made(), made(bucket, 9), made(0, 1, 40, 2, 80, 3)} {
			for _, n := range []int{least, top} {
				want := made(bucket, 1)
				for i, m := range h.Counts {
					want.Counts[i] += m
				}
				want.Total += h.Total
				if out, e := histo.Add(h, n); !same(out, want) || e != api.OK {
					t.Errorf("P19.1: Add(%v, %d): %v %d, want %v", h, n, out, e, want)
				}
			}
		}
		least = top + 1
	}
}

// TestAddInPieces: numbers that are added in pieces, and in another order, are as if they came at once.
func TestAddInPieces(t *testing.T) {
	r := rand.New(rand.NewSource(19))
	for range 300 {
		l := anyNumbers(r, r.Intn(60))
		whole, e := histo.Add(api.Histo{}, l...)
		if e != api.OK || whole.Total != len(l) || len(whole.Counts) != allBuckets {
			t.Fatalf("P19.1: Add({}, %v): %v %d", l, whole, e)
		}
		cut := r.Intn(len(l) + 1)
		first, _ := histo.Add(api.Histo{}, l[:cut]...)
		if pieces, e := histo.Add(first, l[cut:]...); !same(pieces, whole) || e != api.OK {
			t.Fatalf("P19.1: Add of %v and of %v: %v %d, want %v", l[:cut], l[cut:], pieces, e, whole)
		}
		second, _ := histo.Add(api.Histo{}, l[cut:]...)
		if sum, e := histo.Merge(second, first); !same(sum, whole) || e != api.OK {
			t.Fatalf("P19.2: Merge of %v and of %v: %v %d, want %v", l[cut:], l[:cut], sum, e, whole)
		}
		r.Shuffle(len(l), func(i, j int) { l[i], l[j] = l[j], l[i] })
		if turned, e := histo.Add(api.Histo{}, l...); !same(turned, whole) || e != api.OK {
			t.Fatalf("P19.1: Add of %v: %v %d, want %v", l, turned, e, whole)
		}
	}
}

func TestQuantile(t *testing.T) {
	for _, c := range []struct {
		h           api.Histo
		mille, want int
	}{
		{made(0, 1), 1, 0}, {made(0, 1), 1000, 0}, {made(17, 1), 1, 23}, {made(17, 1), 1000, 23}, {made(80, 1), 500, 1048576}, {made(79, 1), 500, 1048575},
		// Of two, the first is the lower half, the second all that is above.
		{made(3, 1, 9, 1), 1, 3}, {made(3, 1, 9, 1), 499, 3}, {made(3, 1, 9, 1), 500, 3}, {made(3, 1, 9, 1), 501, 9}, {made(3, 1, 9, 1), 1000, 9},
		// Of three, a third is more than 333 thousandths.
		{made(3, 1, 9, 1, 17, 1), 333, 3}, {made(3, 1, 9, 1, 17, 1), 334, 9}, {made(3, 1, 9, 1, 17, 1), 666, 9}, {made(3, 1, 9, 1, 17, 1), 667, 23}, {made(1, 1, 2, 1, 17, 1), 900, 23},
		// Of a thousand, each thousandth is one.
		{made(1, 333, 2, 333, 3, 334), 333, 1}, {made(1, 333, 2, 333, 3, 334), 334, 2}, {made(1, 333, 2, 333, 3, 334), 666, 2}, {made(1, 333, 2, 333, 3, 334), 667, 3},
		{made(1, 1, 80, 999), 1, 1}, {made(1, 1, 80, 999), 2, 1048576}, {made(1, 999, 80, 1), 999, 1}, {made(1, 999, 80, 1), 1000, 1048576},
		// Upward: of 1001 one thousandth is more than one, and 999 of them are not more than 1000.
		{made(1, 1, 80, 1000), 1, 1048576}, {made(1, 1000, 80, 1), 999, 1}, {made(1, 1000, 80, 1), 1000, 1048576}, {made(1, 2, 80, 999), 1, 1},
		{made(1, 999, 80, 2), 999, 1048576}, {made(1, 998, 80, 1), 998, 1}, {made(1, 998, 80, 1), 999, 1048576}, {made(1, 998, 80, 3), 998, 1048576}, {made(1, 998, 80, 3), 997, 1},
		// Buckets that have none are gone over.
		{made(0, 5, 79, 5), 500, 0}, {made(0, 5, 79, 5), 501, 1048575}, {made(0, 4, 79, 5), 445, 1048575}, {made(0, 4, 79, 5), 444, 0},
		// In 32 bits, these come round.
		{made(0, mostTotal), 1000, 0}, {made(0, mostTotal/2, 80, mostTotal/2), 500, 0}, {made(0, mostTotal/2, 80, mostTotal/2), 501, 1048576}, {made(0, mostTotal/2-1, 80, mostTotal/2+1), 500, 1048576},
		{made(0, mostTotal/1000, 80, mostTotal-mostTotal/1000), 1, 1048576}, {made(0, mostTotal/1000+1, 80, mostTotal-mostTotal/1000-1), 1, 0}, {made(0, mostTotal-1, 80, 1), 999, 0}, {made(0, mostTotal-1, 80, 1), 1000, 1048576},
	} {
		if n, e := histo.Quantile(c.h, c.mille); n != c.want || e != api.OK {
			t.Errorf("P19.1: Quantile(%v, %d): %d %d, want %d", c.h, c.mille, n, e, c.want)
		}
		agree(t, c.h, c.mille)
	}
}

// TestQuantileErrors: a mille that may not be goes ahead of no numbers.
func TestQuantileErrors(t *testing.T) {
	for _, h := range rights() {
		for _, mille := range append(slices.Concat(below, far), 0, 1001, 1002, 256+1000, 1<<16+500) {
			if n, e := histo.Quantile(h, mille); n != 0 || e != api.ErrRange {
				t.Errorf("P19.1: Quantile(%v, %d): %d %d, want 0 and %d", h, mille, n, e, api.ErrRange)
			}
		}
	}
	for _, h := range []api.Histo{{}, {Counts: []int{}}, made()} {
		for mille := 1; mille <= 1000; mille++ {
			if n, e := histo.Quantile(h, mille); n != 0 || e != api.ErrNone {
				t.Errorf("P19.1: Quantile(%v, %d): %d %d, want 0 and %d", h, mille, n, e, api.ErrNone)
			}
		}
	}
}

// TestQuantileOfAll: each mille, of histograms of many kinds; a greater one tells no lower number.
func TestQuantileOfAll(t *testing.T) {
	r := rand.New(rand.NewSource(190))
	l := rights()
	for _, size := range []int{1, 2, 3, 7, 10, 80, 999, 1000, 1001, 2500} {
		h, e := histo.Add(api.Histo{}, anyNumbers(r, size)...)
		if e != api.OK {
			t.Fatalf("P19.1: Add of %d numbers: %d", size, e)
		}
		l = append(l, h)
	}
	for _, h := range l {
		before := 0
		for mille := 1; mille <= 1000; mille++ {
			agree(t, h, mille)
			n, _ := histo.Quantile(h, mille)
			if n < before {
				t.Fatalf("P19.1: Quantile(%v, %d): %d, which is less than %d", h, mille, n, before)
			}
			before = n
		}
	}
}

func TestMerge(t *testing.T) {
	for _, c := range []struct {
		l    []api.Histo
		want api.Histo
	}{
		{nil, api.Histo{}},
		{[]api.Histo{}, api.Histo{}},
		{[]api.Histo{{}}, api.Histo{}},
		{[]api.Histo{{}, {Counts: []int{}}, {}}, api.Histo{}},
		// Counts of no numbers are Counts, too.
		{[]api.Histo{made()}, made()},
		{[]api.Histo{{}, made(), {}}, made()},
		{[]api.Histo{made(), made()}, made()},
		{[]api.Histo{made(4, 7)}, made(4, 7)},
		{[]api.Histo{{}, made(4, 7)}, made(4, 7)},
		{[]api.Histo{made(4, 7), {}}, made(4, 7)},
		{[]api.Histo{made(4, 7), made(5, 1)}, made(4, 7, 5, 1)},
		{[]api.Histo{made(4, 7), {}, made(4, 8, 80, 1), made(), made(0, 2, 4, 1)}, made(0, 2, 4, 16, 80, 1)},
		{[]api.Histo{made(0, mostTotal)}, made(0, mostTotal)},
		{[]api.Histo{made(0, mostTotal), {}, made()}, made(0, mostTotal)},
		{[]api.Histo{made(0, mostTotal-1), made(0, 1)}, made(0, mostTotal)},
		{[]api.Histo{made(0, 1), made(80, mostTotal-1)}, made(0, 1, 80, mostTotal-1)},
		{[]api.Histo{made(7, mostTotal/2), made(8, mostTotal/4), made(7, mostTotal/4)}, made(7, mostTotal/2+mostTotal/4, 8, mostTotal/4)},
	} {
		out, e := histo.Merge(c.l...)
		if !same(out, c.want) || e != api.OK {
			t.Errorf("P19.2: Merge(%v): %v %d, want %v", c.l, out, e, c.want)
		}
		if e := histo.Check(out); e != api.OK {
			t.Errorf("P19.2: what Merge(%v) answers may not be: %d", c.l, e)
		}
		agreeOnMerge(t, c.l...)
	}
}

func TestMergeFull(t *testing.T) {
	full := made(9, mostTotal)
	for _, l := range [][]api.Histo{
		{full, made(9, 1)}, {made(0, 1), full}, {full, {}, made(80, 1)}, {full, full}, {made(0, mostTotal/2), made(1, mostTotal/2), made(2, 1)}, {made(0, mostTotal-1), made(1, 2)},
		// In 32 bits, these come round to nothing.
		slices.Repeat([]api.Histo{full}, 4), slices.Repeat([]api.Histo{made(9, mostTotal/2)}, 8), slices.Repeat([]api.Histo{full}, 1024),
	} {
		if out, e := histo.Merge(l...); out.Counts != nil || out.Total != 0 || e != api.ErrFull {
			t.Errorf("P19.2: Merge(%v): %v %d, want nothing and %d", l, out, e, api.ErrFull)
		}
		agreeOnMerge(t, l...)
		wrong := append(slices.Clone(l), api.Histo{Total: 1})
		if out, e := histo.Merge(wrong...); out.Counts != nil || out.Total != 0 || e != api.ErrState {
			t.Errorf("P19.2: Merge(%v): %v %d, want nothing and %d", wrong, out, e, api.ErrState)
		}
	}
}

// TestMergeOfMany: a sum is the same in any order and in any pieces.
func TestMergeOfMany(t *testing.T) {
	r := rand.New(rand.NewSource(191))
	for range 300 {
		l := make([]api.Histo, r.Intn(12))
		for i := range l {
			if r.Intn(3) > 0 {
				l[i], _ = histo.Add(api.Histo{}, anyNumbers(r, r.Intn(20))...)
			}
		}
		whole, e := histo.Merge(l...)
		if e != api.OK {
			t.Fatalf("P19.2: Merge(%v): %d", l, e)
		}
		agreeOnMerge(t, l...)
		cut := r.Intn(len(l) + 1)
		first, _ := histo.Merge(l[:cut]...)
		second, _ := histo.Merge(l[cut:]...)
		if pieces, e := histo.Merge(second, first); !same(pieces, whole) || e != api.OK {
			t.Fatalf("P19.2: Merge(%v) in pieces: %v %d, want %v", l, pieces, e, whole)
		}
		r.Shuffle(len(l), func(i, j int) { l[i], l[j] = l[j], l[i] })
		if turned, e := histo.Merge(l...); !same(turned, whole) || e != api.OK {
			t.Fatalf("P19.2: Merge(%v): %v %d, want %v", l, turned, e, whole)
		}
	}
}

// near tells if a quantile is what its number lets it be.
func near(n, quantile int) bool {
	n = min(n, mostNumber)
	if n <= 15 {
		return quantile == n
	}
	return quantile >= n && 4*(quantile-n) <= n
}

// TestNearOfOne: all numbers, each alone in its bucket.
func TestNearOfOne(t *testing.T) {
	for n := range mostNumber + 1 {
		bucket, _ := histo.Bucket(n)
		if top, e := histo.Top(bucket); !near(n, top) || e != api.OK {
			t.Fatalf("P19.3: %d is told as %d, %d", n, top, e)
		}
	}
	for n := 0; n <= mostNumber+100; n = n + 1 + n/300 {
		h, e := histo.Add(api.Histo{}, n)
		if e != api.OK {
			t.Fatalf("P19.1: Add({}, %d): %d", n, e)
		}
		for _, mille := range []int{1, 500, 1000} {
			if quantile, e := histo.Quantile(h, mille); !near(n, quantile) || e != api.OK {
				t.Fatalf("P19.3: Quantile of %d alone, %d: %d %d", n, mille, quantile, e)
			}
		}
	}
}

// TestNearOfMany: the number is the one at its place, when all are sorted.
func TestNearOfMany(t *testing.T) {
	r := rand.New(rand.NewSource(192))
	for range 300 {
		l := anyNumbers(r, 1+r.Intn(200))
		h, e := histo.Add(api.Histo{}, l...)
		if e != api.OK {
			t.Fatalf("P19.1: Add({}, %v): %d", l, e)
		}
		slices.Sort(l)
		for _, mille := range []int{1, 2, 10, 250, 333, 334, 499, 500, 501, 666, 667, 900, 990, 998, 999, 1000, 1 + r.Intn(1000)} {
			// The first place by which so many thousandths are met.
			place := 1
			for place*1000 < mille*len(l) {
				place++
			}
			n := l[place-1]
			if quantile, e := histo.Quantile(h, mille); !near(n, quantile) || e != api.OK {
				t.Fatalf("P19.3: Quantile(%v, %d): %d %d, of the number %d", l, mille, quantile, e, n)
			}
		}
	}
}

// TestNearIsReached: the chapter's quarter can't be less: the least number of a bucket that is the first of its highest bit.
func TestNearIsReached(t *testing.T) {
	for k := 4; k < 20; k++ {
		h, _ := histo.Add(api.Histo{}, 1<<k)
		if quantile, e := histo.Quantile(h, 1000); quantile != 1<<k+1<<(k-2)-1 || e != api.OK {
			t.Errorf("P19.3: Quantile of %d alone: %d %d, want %d", 1<<k, quantile, e, 1<<k+1<<(k-2)-1)
		}
	}
}

// anyNumbers are mostly near the ends of buckets, and now and then beyond the last one.
func anyNumbers(r *rand.Rand, size int) []int {
	l := make([]int, size)
	for i := range l {
		switch r.Intn(8) {
		case 0:
			l[i] = r.Intn(18)
		case 1:
			l[i] = far[r.Intn(len(far))]
		case 2:
			l[i] = r.Intn(mostNumber + 10)
		default:
			top, _ := slowTop(r.Intn(allBuckets))
			l[i] = top + r.Intn(2)
		}
	}
	return l
}

// anyHisto is mostly one that may be, with few numbers or with as many as there may be.
func anyHisto(r *rand.Rand) api.Histo {
	if r.Intn(8) == 0 {
		return api.Histo{}
	}
	h := made()
	most := []int{2, 50, mostTotal / 40, mostTotal}[r.Intn(4)]
	for range r.Intn(30) {
		n := r.Intn(most)
		if h.Total+n <= mostTotal {
			h.Counts[r.Intn(allBuckets)] += n
			h.Total += n
		}
	}
	switch r.Intn(24) {
	case 0:
		h.Total += r.Intn(3) - 1
	case 1:
		h.Counts[r.Intn(allBuckets)] -= 1 + r.Intn(2)
	case 2:
		h.Counts = h.Counts[:r.Intn(allBuckets)]
	case 3:
		h.Counts = append(h.Counts, 0)
	case 4:
		n := mostTotal - h.Total + r.Intn(3) - 1
		h.Counts[r.Intn(allBuckets)] += n
		h.Total += n
	}
	return h
}

func TestAllOfAny(t *testing.T) {
	r := rand.New(rand.NewSource(193))
	added, told, summed := map[api.Errno]int{}, map[api.Errno]int{}, map[api.Errno]int{}
	for range 30000 {
		h := anyHisto(r)
		mille := r.Intn(1040) - 20
		agree(t, h, mille)
		_, e := histo.Quantile(h, mille)
		told[e]++
		l := anyNumbers(r, r.Intn(6))
		if r.Intn(10) == 0 {
			l = append(l, below[r.Intn(len(below))])
			slices.Reverse(l)
		}
		agreeOnAdd(t, h, l...)
		_, e = histo.Add(h, l...)
		added[e]++
		some := make([]api.Histo, r.Intn(5))
		for i := range some {
			some[i] = anyHisto(r)
		}
		agreeOnMerge(t, some...)
		_, e = histo.Merge(some...)
		summed[e]++
	}
	for _, e := range []api.Errno{api.OK, api.ErrState, api.ErrRange, api.ErrFull} {
		if added[e] < 100 {
			t.Errorf("P19.1: what Add answered was too much of a kind: %v", added)
		}
	}
	for _, e := range []api.Errno{api.OK, api.ErrState, api.ErrRange, api.ErrNone} {
		if told[e] < 100 {
			t.Errorf("P19.1: what Quantile answered was too much of a kind: %v", told)
		}
	}
	for _, e := range []api.Errno{api.OK, api.ErrState, api.ErrFull} {
		if summed[e] < 100 {
			t.Errorf("P19.2: what Merge answered was too much of a kind: %v", summed)
		}
	}
}

// roomy is a copy of h, with room behind its Counts that is told by -5.
func roomy(h api.Histo) api.Histo {
	counts := append(slices.Clone(h.Counts), -5, -5, -5)
	return api.Histo{Counts: counts[:len(h.Counts)], Total: h.Total}
}

// TestNotChanged: what is handed in stays, with the room behind it.
func TestNotChanged(t *testing.T) {
	for _, h := range append(rights(), wrongs()...) {
		given, other := roomy(h), roomy(made(1, 2, 80, 3))
		l := []int{5, 900, 1 << 40, 3, 77}
		histo.Check(given)
		histo.Quantile(given, 500)
		histo.Add(given)
		histo.Add(given, l[:2]...)
		histo.Add(given, l...)
		histo.Add(given, append(l[:4:4], -1)...)
		some := []api.Histo{given, other, {}, given}
		histo.Merge(some[:1]...)
		histo.Merge(some...)
		if !same(given, h) || !same(other, made(1, 2, 80, 3)) || !same(some[0], h) || !same(some[2], api.Histo{}) || !same(some[3], h) || !slices.Equal(l, []int{5, 900, 1 << 40, 3, 77}) {
			t.Errorf("P19.4: what is handed in is changed: %v %v %v %v, want %v", given, other, some, l, h)
		}
		for _, x := range []api.Histo{given, other} {
			if room := x.Counts[len(x.Counts):][:3]; !slices.Equal(room, []int{-5, -5, -5}) {
				t.Errorf("P19.4: the room behind %v is changed: %v", x, room)
			}
		}
	}
}

// spoil writes over a histogram, to the end of its room.
func spoil(h api.Histo) {
	counts := h.Counts[:cap(h.Counts)]
	for i := range counts {
		counts[i] = -77
	}
}

// TestNewMemory: an answer that is written over changes no argument and no other answer, be it that nothing was added.
func TestNewMemory(t *testing.T) {
	for _, h := range rights() {
		for _, l := range [][]int{nil, {}, {1}, {5, 80, 9000}} {
			for _, c := range []struct {
				name string
				call func(api.Histo) (api.Histo, api.Errno)
			}{
				{"Add", func(h api.Histo) (api.Histo, api.Errno) { return histo.Add(h, l...) }},
				{"Merge of it", func(h api.Histo) (api.Histo, api.Errno) { return histo.Merge(h) }},
				{"Merge of it first", func(h api.Histo) (api.Histo, api.Errno) { return histo.Merge(h, api.Histo{}, made()) }},
				{"Merge of it last", func(h api.Histo) (api.Histo, api.Errno) { return histo.Merge(api.Histo{}, made(), h) }},
			} {
				given := clone(h)
				out, wrong := c.call(given)
				kept := clone(out)
				for range 2 {
					again, e := c.call(given)
					if !same(again, kept) || e != wrong {
						t.Errorf("P19.4: %s(%v, %v) shares memory with what is kept: %v %d, want %v", c.name, h, l, again, e, kept)
					}
					spoil(again)
				}
				if !same(given, h) || !same(out, kept) {
					t.Errorf("P19.4: an answer of %s(%v, %v) shares memory: %v %v", c.name, h, l, given, out)
				}
			}
		}
	}
}

// TestNotKept: what is changed behind a call changes no answer, and calls know nothing of each other.
func TestNotKept(t *testing.T) {
	given, l := made(3, 5, 40, 2), []int{7, 8, 900}
	some := []api.Histo{made(3, 5, 40, 2), made(9, 1)}
	sum, _ := histo.Add(given, l...)
	merged, _ := histo.Merge(some...)
	keptSum, keptMerged := clone(sum), clone(merged)
	spoil(given)
	spoil(some[0])
	clear(l)
	clear(some)
	if !same(sum, keptSum) || !same(merged, keptMerged) {
		t.Errorf("P19.4: what is handed in is kept: %v %v, want %v %v", sum, merged, keptSum, keptMerged)
	}
	histo.Add(made(0, mostTotal), 5)
	histo.Add(api.Histo{}, 1, 2, 3)
	histo.Merge(made(5, 6), made(7, 8))
	histo.Quantile(made(80, 4), 1000)
	if again, e := histo.Add(made(3, 5, 40, 2), 7, 8, 900); !same(again, keptSum) || e != api.OK {
		t.Errorf("P19.4: Add hangs on the calls ahead: %v %d, want %v", again, e, keptSum)
	}
	if again, e := histo.Merge(made(3, 5, 40, 2), made(9, 1)); !same(again, keptMerged) || e != api.OK {
		t.Errorf("P19.4: Merge hangs on the calls ahead: %v %d, want %v", again, e, keptMerged)
	}
}

// TestAtOnce: goroutines that call at the same time are told what one is told.
func TestAtOnce(t *testing.T) {
	h, l := made(3, 5, 40, 2, 80, 1), []int{7, 8, 900, 1 << 30}
	some := []api.Histo{h, {}, made(9, 1), h}
	ask := func() []int {
		bucket, e := histo.Bucket(12345)
		top, f := histo.Top(bucket)
		quantile, g := histo.Quantile(h, 700)
		sum, i := histo.Add(h, l...)
		merged, j := histo.Merge(some...)
		told := []int{bucket, int(e), top, int(f), quantile, int(g), sum.Total, int(i), merged.Total, int(j), int(histo.Check(h))}
		return slices.Concat(told, sum.Counts, merged.Counts)
	}
	want := ask()
	got := make([][]int, 16)
	var all sync.WaitGroup
	for i := range got {
		all.Go(func() {
			for range 50 {
				got[i] = ask()
			}
		})
	}
	all.Wait()
	for i, l := range got {
		if !slices.Equal(l, want) {
			t.Errorf("P19.4: goroutine %d is told %d, want %d", i, l, want)
		}
	}
}

// FuzzHisto holds P19.1 to P19.3 for numbers of any kind, and for histograms that are told by octets.
func FuzzHisto(f *testing.F) {
	f.Add([]byte{}, 0, 0, 1)
	f.Add([]byte{17, 1, 80, 3}, 20, 17, 500)
	f.Add([]byte{0, 255, 1, 254}, mostNumber, 80, 1000)
	f.Add([]byte{0, 250, 80, 251}, math.MaxInt, 81, 1001)
	f.Add([]byte{3, 252, 200, 1}, -1, -1, -1)
	f.Add([]byte{3, 253, 255, 9, 7, 249}, math.MinInt, math.MinInt, math.MinInt)
	f.Fuzz(func(t *testing.T, b []byte, n, bucket, mille int) {
		want, wrong := slowBucket(n)
		if out, e := histo.Bucket(n); out != want || e != wrong {
			t.Fatalf("P19.1: Bucket(%d): %d %d, want %d %d", n, out, e, want, wrong)
		}
		want, wrong = slowTop(bucket)
		if out, e := histo.Top(bucket); out != want || e != wrong {
			t.Fatalf("P19.1: Top(%d): %d %d, want %d %d", bucket, out, e, want, wrong)
		}
		h := told(b)
		agree(t, h, mille)
		agreeOnAdd(t, h)
		agreeOnAdd(t, h, n)
		agreeOnAdd(t, h, bucket, mille, n)
		half := told(b[:len(b)/2])
		agreeOnMerge(t, h, half)
		agreeOnMerge(t, half, api.Histo{}, h, half)
		if alone, e := histo.Add(api.Histo{}, n); e == api.OK {
			if quantile, _ := histo.Quantile(alone, 1000); !near(n, quantile) {
				t.Fatalf("P19.3: Quantile of %d alone: %d", n, quantile)
			}
		}
	})
}

// told makes a histogram of octets, a bucket and how many it has each; buckets that are none make its Total wrong, or its Counts too long.
func told(b []byte) api.Histo {
	if len(b) < 2 {
		return api.Histo{}
	}
	h := made()
	for i := 0; i+1 < len(b); i += 2 {
		bucket, n := int(b[i]), int(b[i+1])
		if n > 248 {
			n = []int{-1, mostTotal, mostTotal - 1, mostTotal + 1, math.MaxInt, mostTotal / 2, math.MinInt}[n-249]
		}
		if bucket < allBuckets {
			h.Counts[bucket] += n
		}
		if bucket < 200 {
			h.Total += n
		}
		if bucket > 250 {
			h.Counts = append(h.Counts, n)
		}
	}
	return h
}
