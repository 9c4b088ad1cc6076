package ring_test

import (
	"math"
	"math/rand"
	"slices"
	"sort"
	"sync"
	"testing"

	"waybill/api"
	"waybill/hash"
	"waybill/ring"
)

// The document's numbers, written out.
const (
	mostBackends = 32
	mostWeight   = 16
	mostPoints   = 1024
	mostEach     = 64
	mostKeys     = 4096
	mostID       = 2147483647
)

// slowCheck goes by the words of the chapter.
func slowCheck(l []api.Backend) api.Errno {
	if len(l) > mostBackends {
		return api.ErrCount
	}
	for _, b := range l {
		if b.ID < 0 || b.ID > mostID {
			return api.ErrRange
		}
		if b.Weight < 1 || b.Weight > mostWeight {
			return api.ErrRange
		}
	}
	for i, b := range l {
		for _, other := range l[i+1:] {
			if other.ID <= b.ID {
				return api.ErrTwice
			}
		}
	}
	return api.OK
}

// slowBuild goes by the words of the chapter in another way: each point is put in its place.
func slowBuild(points int, l []api.Backend) ([]api.Point, api.Errno) {
	if e := slowCheck(l); e != api.OK {
		return nil, e
	}
	if points < 1 || points > mostEach {
		return nil, api.ErrRange
	}
	var r []api.Point
	for _, b := range l {
		for range b.Weight {
			for range points {
				r = append(r, api.Point{ID: b.ID})
			}
		}
	}
	if len(r) > mostPoints {
		return nil, api.ErrLong
	}
	k := 0
	for i := range r {
		if i > 0 && r[i-1].ID != r[i].ID {
			k = 0
		}
		r[i].Hash = hash.Mix(hash.Mix(1+uint64(r[i].ID)) + uint64(k))
		k++
	}
	sort.SliceStable(r, func(i, j int) bool { return ahead(r[i], r[j]) })
	return r, api.OK
}

// ahead tells whether a is by Hash, then ID, ahead of b.
func ahead(a, b api.Point) bool {
	if a.Hash == b.Hash {
		return a.ID < b.ID
	}
	return a.Hash < b.Hash
}

// slowWhole goes by the words of the chapter.
func slowWhole(r []api.Point) api.Errno {
	if len(r) > mostPoints {
		return api.ErrCount
	}
	for i, p := range r {
		if p.ID < 0 || i > 0 && ahead(p, r[i-1]) {
			return api.ErrState
		}
	}
	return api.OK
}

// slowWalk goes by the words of the chapter in another way: first the points from the hash on, then those ahead of it.
func slowWalk(r []api.Point, h uint64) ([]int, api.Errno) {
	if e := slowWhole(r); e != api.OK {
		return nil, e
	}
	if len(r) == 0 {
		return nil, api.ErrNone
	}
	var ids []int
	take := func(first bool) {
		for _, p := range r {
			if (p.Hash >= h) == first && !slices.Contains(ids, p.ID) {
				ids = append(ids, p.ID)
			}
		}
	}
	take(true)
	take(false)
	return ids, api.OK
}

// slowLookup goes by the words of the chapter: the points one after the other.
func slowLookup(r []api.Point, h uint64) (int, api.Errno) {
	if e := slowWhole(r); e != api.OK {
		return 0, e
	}
	if len(r) == 0 {
		return 0, api.ErrNone
	}
	for _, p := range r {
		if p.Hash >= h {
			return p.ID, api.OK
		}
	}
	return r[0].ID, api.OK
}

// slowShares goes by the words of the chapter: a count for each ID.
func slowShares(r []api.Point, keys int) ([]int, api.Errno) {
	ids, e := slowWalk(r, 0)
	if e != api.OK {
		return nil, e
	}
	if keys < 0 || keys > mostKeys {
		return nil, api.ErrRange
	}
	sort.Ints(ids)
	counts := make([]int, len(ids))
	for k := range keys {
		id, _ := slowLookup(r, hash.Mix(2+uint64(k)))
		counts[slices.Index(ids, id)]++
	}
	return counts, api.OK
}

// built is Build's ring, which must be.
func built(t testing.TB, points int, l ...api.Backend) []api.Point {
	t.Helper()
	r, e := ring.Build(points, l...)
	if e != api.OK {
		t.Fatalf("P12.1: Build(%d, %v): error %d", points, l, e)
	}
	return r
}

// row is n backends from 0 on, of one weight.
func row(n, weight int) []api.Backend {
	var l []api.Backend
	for id := range n {
		l = append(l, api.Backend{ID: id, Weight: weight})
	}
	return l
}

// points is n points of an ID each with one Hash after the other.
func points(n int) []api.Point {
	var r []api.Point
	for i := range n {
		r = append(r, api.Point{Hash: uint64(i) << 50, ID: i % 7})
	}
	return r
}

// anyBackends is backends that may be, some of them at the ends of their ranges.
func anyBackends(r *rand.Rand) []api.Backend {
	var l []api.Backend
	id := r.Intn(3)
	for range r.Intn(mostBackends + 1) {
		if id > mostID {
			break
		}
		l = append(l, api.Backend{ID: id, Weight: 1 + r.Intn(1+r.Intn(mostWeight))})
		id += 1 + r.Intn(4)
		if r.Intn(8) == 0 {
			id += 1 << r.Intn(31)
		}
	}
	return l
}

// anyRing is a ring of few hashes, so that points stand side by side on one.
func anyRing(r *rand.Rand) []api.Point {
	hashes := []uint64{0, 1, 2, 10, 20, 1 << 32, 1<<63 - 1, 1 << 63, math.MaxUint64 - 1, math.MaxUint64}
	ids := []int{0, 1, 2, 5, 31, 32, mostID, mostID + 1, math.MaxInt}
	var l []api.Point
	for range 1 + r.Intn(20) {
		l = append(l, api.Point{Hash: hashes[r.Intn(len(hashes))], ID: ids[r.Intn(len(ids))]})
	}
	sort.Slice(l, func(i, j int) bool { return ahead(l[i], l[j]) })
	return l
}

// hashesOf are those around each point, those at the ends of 64 bits, and some by chance.
func hashesOf(l []api.Point) []uint64 {
	out := []uint64{0, 1, 77, math.MaxUint32, 1 << 32, 1<<63 - 1, 1 << 63, 1<<63 + 1, math.MaxUint64 - 1, math.MaxUint64}
	for _, p := range l {
		out = append(out, p.Hash-1, p.Hash, p.Hash+1)
	}
	r := rand.New(rand.NewSource(int64(len(l))))
	for range 50 {
		out = append(out, r.Uint64())
	}
	return out
}

func TestCheck(t *testing.T) {
	for _, c := range []struct {
		l    []api.Backend
		want api.Errno
	}{
		{nil, api.OK},
		{[]api.Backend{}, api.OK},
		{[]api.Backend{{ID: 0, Weight: 1}}, api.OK},
		{[]api.Backend{{ID: mostID, Weight: mostWeight}}, api.OK},
		{[]api.Backend{{ID: 0, Weight: 1}, {ID: 1, Weight: 1}, {ID: mostID - 1, Weight: 16}, {ID: mostID, Weight: 2}}, api.OK},
		{row(mostBackends, 1), api.OK},
		{row(mostBackends, mostWeight), api.OK},
		{row(mostBackends+1, 1), api.ErrCount},
		{make([]api.Backend, mostBackends+1), api.ErrCount},
		{make([]api.Backend, 1<<16), api.ErrCount},
		{make([]api.Backend, mostBackends), api.ErrRange},
		{[]api.Backend{{}}, api.ErrRange},
		{[]api.Backend{{ID: 4, Weight: 1}, {ID: 4, Weight: 1}}, api.ErrTwice},
		{[]api.Backend{{ID: 4, Weight: 1}, {ID: 4, Weight: 2}}, api.ErrTwice},
		{[]api.Backend{{ID: 4, Weight: 1}, {ID: 3, Weight: 1}}, api.ErrTwice},
		{[]api.Backend{{ID: 1, Weight: 1}, {ID: 0, Weight: 1}}, api.ErrTwice},
		{[]api.Backend{{ID: 1, Weight: 1}, {ID: 5, Weight: 1}, {ID: 9, Weight: 1}, {ID: 5, Weight: 1}}, api.ErrTwice},
		{[]api.Backend{{ID: 1, Weight: 1}, {ID: 5, Weight: 1}, {ID: 9, Weight: 1}, {ID: 9, Weight: 1}}, api.ErrTwice},
		{[]api.Backend{{ID: mostID, Weight: 1}, {ID: mostID, Weight: 1}}, api.ErrTwice},
	} {
		if e := ring.Check(c.l); e != c.want {
			t.Errorf("P12.1: Check(%v): %d, want %d", c.l, e, c.want)
		}
	}
}

// TestCheckRange: an ID or a Weight that may not be, wherever it is; and it goes ahead of IDs that do not rise, whichever of both comes first.
func TestCheckRange(t *testing.T) {
	var wrong []api.Backend
	for _, id := range []int{-1, -2, mostID + 1, 1 << 32, 1<<32 + 1, math.MinInt32, math.MaxInt, math.MinInt} {
		wrong = append(wrong, api.Backend{ID: id, Weight: 1}, api.Backend{ID: id, Weight: mostWeight}, api.Backend{ID: id})
	}
	for _, weight := range []int{0, -1, -mostWeight, mostWeight + 1, 1 << 32, 1<<32 + 1, math.MinInt32, math.MaxInt, math.MinInt} {
		wrong = append(wrong, api.Backend{ID: 0, Weight: weight}, api.Backend{ID: 5, Weight: weight}, api.Backend{ID: mostID, Weight: weight})
	}
	a, b := api.Backend{ID: 1, Weight: 1}, api.Backend{ID: 2, Weight: 1}
	for _, w := range wrong {
		for _, l := range [][]api.Backend{{w}, {w, a}, {a, w}, {a, w, b}, {a, b, w}, {b, a, w}, {a, a, w}, {w, a, a}, {w, b, a}, {w, w}} {
			if e := ring.Check(l); e != api.ErrRange {
				t.Errorf("P12.1: Check(%v): %d, want %d", l, e, api.ErrRange)
			}
			if r, e := ring.Build(1, l...); len(r) != 0 || e != api.ErrRange {
				t.Errorf("P12.1: Build(1, %v): %v %d, want none and %d", l, r, e, api.ErrRange)
			}
		}
	}
}

func TestBuild(t *testing.T) {
	for _, c := range []struct {
		points int
		l      []api.Backend
		want   []api.Point
	}{
		{1, nil, nil},
		{mostEach, []api.Backend{}, nil},
		{1, []api.Backend{{ID: 0, Weight: 1}}, []api.Point{{Hash: 0x7d6e4ac38b2b1be2, ID: 0}}},
		{2, []api.Backend{{ID: 1, Weight: 2}}, []api.Point{{Hash: 0x2f001c5a9cf66fa8, ID: 1}, {Hash: 0x7b498958e031e0ea, ID: 1}, {Hash: 0x89d8e1fd0029972d, ID: 1}, {Hash: 0x91dfcba429edc5f2, ID: 1}}},
		{1, []api.Backend{{ID: 0, Weight: 1}, {ID: 1, Weight: 1}, {ID: 2, Weight: 2}},
			[]api.Point{{Hash: 0x2f001c5a9cf66fa8, ID: 1}, {Hash: 0x79a93482f6c9fc85, ID: 2}, {Hash: 0x7d6e4ac38b2b1be2, ID: 0}, {Hash: 0xac7cb627ca2f4a0c, ID: 2}}},
		{1, []api.Backend{{ID: 0, Weight: 1}, {ID: mostID, Weight: 1}}, []api.Point{{Hash: 0x7d6e4ac38b2b1be2, ID: 0}, {Hash: 0x9d424d4d2b0830f4, ID: mostID}}},
		{3, []api.Backend{{ID: 7, Weight: 1}, {ID: 9, Weight: 2}}, []api.Point{
			{Hash: 0x1921927b8e1fdaa7, ID: 9}, {Hash: 0x22c0fc8bca12cd50, ID: 9}, {Hash: 0x3ca027e082c854b4, ID: 9},
			{Hash: 0x4fea92c46ee5745a, ID: 9}, {Hash: 0x68ecf1cacb69f37b, ID: 7}, {Hash: 0x887fecf81ee41c1b, ID: 7},
			{Hash: 0xaaef91e8acecc12b, ID: 7}, {Hash: 0xaed94706685a9d58, ID: 9}, {Hash: 0xeade06ddd7007cff, ID: 9}}},
	} {
		if r, e := ring.Build(c.points, c.l...); !slices.Equal(r, c.want) || e != api.OK {
			t.Errorf("P12.1: Build(%d, %v): %x %d, want %x", c.points, c.l, r, e, c.want)
		}
	}
}

func TestBuildOfAny(t *testing.T) {
	r := rand.New(rand.NewSource(12))
	times := map[api.Errno]int{}
	for range 2000 {
		n, l := r.Intn(1+r.Intn(mostEach+2)), anyBackends(r)
		want, wrong := slowBuild(n, l)
		times[wrong]++
		got, e := ring.Build(n, l...)
		if !slices.Equal(got, want) || e != wrong {
			t.Fatalf("P12.1: Build(%d, %v): %x %d, want %x %d", n, l, got, e, want, wrong)
		}
		if e := ring.Whole(got); e != api.OK {
			t.Fatalf("P12.1: Build(%d, %v) is not whole: %d", n, l, e)
		}
	}
	if times[api.OK] < 100 || times[api.ErrRange] < 100 || times[api.ErrLong] < 100 {
		t.Errorf("P12.1: what Build answered was too much of a kind: %v", times)
	}
}

// TestBuildSize: at most 1024 points in all, however they come about.
func TestBuildSize(t *testing.T) {
	twos := append(row(31, 2), api.Backend{ID: 100, Weight: 2})
	for _, c := range []struct {
		points int
		l      []api.Backend
		want   int
		e      api.Errno
	}{
		{mostEach, row(1, mostWeight), 1024, api.OK},
		{mostEach, row(16, 1), 1024, api.OK},
		{2, row(mostBackends, mostWeight), 1024, api.OK},
		{32, row(mostBackends, 1), 1024, api.OK},
		{16, twos, 1024, api.OK},
		{63, row(16, 1), 1008, api.OK},
		{1, row(mostBackends, mostWeight), 512, api.OK},
		{1, append(row(1, mostWeight), api.Backend{ID: 1, Weight: 1}), 17, api.OK},
		{5, append(row(12, mostWeight), api.Backend{ID: 12, Weight: 12}), 1020, api.OK},
		{3, append(row(21, mostWeight), api.Backend{ID: 21, Weight: 5}), 1023, api.OK},
		{5, append(row(12, mostWeight), api.Backend{ID: 12, Weight: 13}), 0, api.ErrLong},
		{25, row(mostBackends, 1), 800, api.OK},
		{25, append(row(20, 2), api.Backend{ID: 20, Weight: 1}), 0, api.ErrLong},
		{mostEach, append(row(1, mostWeight), api.Backend{ID: 1, Weight: 1}), 0, api.ErrLong},
		{mostEach, row(17, 1), 0, api.ErrLong},
		{3, row(mostBackends, mostWeight), 0, api.ErrLong},
		{33, row(mostBackends, 1), 0, api.ErrLong},
		{mostEach, row(mostBackends, mostWeight), 0, api.ErrLong},
	} {
		if r, e := ring.Build(c.points, c.l...); len(r) != c.want || e != c.e {
			t.Errorf("P12.1: Build(%d, %v): %d points, %d; want %d, %d", c.points, c.l, len(r), e, c.want, c.e)
		}
	}
}

// TestBuildErrors: Check's error goes ahead of what is wrong with points, and that of too many in all.
func TestBuildErrors(t *testing.T) {
	a, b := api.Backend{ID: 1, Weight: 1}, api.Backend{ID: 2, Weight: 1}
	for _, n := range []int{0, -1, -mostEach, mostEach + 1, math.MaxInt32, math.MinInt32, 1 << 32, 1<<32 + 1, 1 << 60, 1<<60 + 1, math.MaxInt, math.MinInt} {
		for _, c := range []struct {
			l    []api.Backend
			want api.Errno
		}{
			{nil, api.ErrRange},
			{[]api.Backend{a}, api.ErrRange},
			{[]api.Backend{a, b}, api.ErrRange},
			{row(mostBackends, mostWeight), api.ErrRange},
			{row(mostBackends+1, 1), api.ErrCount},
			{[]api.Backend{b, a}, api.ErrTwice},
			{[]api.Backend{a, a}, api.ErrTwice},
		} {
			if r, e := ring.Build(n, c.l...); len(r) != 0 || e != c.want {
				t.Errorf("P12.1: Build(%d, %v): %v %d, want none and %d", n, c.l, r, e, c.want)
			}
		}
	}
	for _, n := range []int{1, 32, mostEach} {
		if r, e := ring.Build(n, row(mostBackends+1, mostWeight)...); len(r) != 0 || e != api.ErrCount {
			t.Errorf("P12.1: Build(%d) of too many backends: %v %d, want none and %d", n, r, e, api.ErrCount)
		}
		high := append(row(mostBackends-1, mostWeight), api.Backend{ID: 0, Weight: 1})
		if r, e := ring.Build(n, high...); len(r) != 0 || e != api.ErrTwice {
			t.Errorf("P12.1: Build(%d) of an ID twice: %v %d, want none and %d", n, r, e, api.ErrTwice)
		}
	}
}

func TestWhole(t *testing.T) {
	for _, c := range []struct {
		r    []api.Point
		want api.Errno
	}{
		{nil, api.OK},
		{[]api.Point{}, api.OK},
		{[]api.Point{{}}, api.OK},
		{[]api.Point{{Hash: math.MaxUint64, ID: math.MaxInt}}, api.OK},
		{[]api.Point{{Hash: 5, ID: mostID}, {Hash: 5, ID: mostID + 1}}, api.OK},
		{[]api.Point{{Hash: 1, ID: 9}, {Hash: 2, ID: 3}}, api.OK},
		{[]api.Point{{Hash: 1, ID: 3}, {Hash: 1, ID: 9}}, api.OK},
		{[]api.Point{{Hash: 1, ID: 3}, {Hash: 1, ID: 3}}, api.OK},
		{[]api.Point{{Hash: 1, ID: 3}, {Hash: 1, ID: 3}, {Hash: 1, ID: 3}, {Hash: 1, ID: 4}}, api.OK},
		{[]api.Point{{Hash: 1<<63 - 1, ID: 3}, {Hash: 1 << 63, ID: 3}}, api.OK},
		{[]api.Point{{Hash: 0, ID: 3}, {Hash: math.MaxUint64, ID: 0}}, api.OK},
		{points(mostPoints), api.OK},
		{make([]api.Point, mostPoints), api.OK},
		{points(mostPoints + 1), api.ErrCount},
		{make([]api.Point, mostPoints+1), api.ErrCount},
		{make([]api.Point, 1<<16), api.ErrCount},
		{[]api.Point{{Hash: 1, ID: 9}, {Hash: 1, ID: 3}}, api.ErrState},
		{[]api.Point{{Hash: 2, ID: 3}, {Hash: 1, ID: 9}}, api.ErrState},
		{[]api.Point{{Hash: 2, ID: 3}, {Hash: 1, ID: 3}}, api.ErrState},
		{[]api.Point{{Hash: 1 << 63, ID: 3}, {Hash: 1<<63 - 1, ID: 3}}, api.ErrState},
		{[]api.Point{{Hash: math.MaxUint64, ID: 3}, {Hash: 0, ID: 3}}, api.ErrState},
		{[]api.Point{{Hash: 1, ID: 1}, {Hash: 2, ID: 1}, {Hash: 3, ID: 1}, {Hash: 2, ID: 1}}, api.ErrState},
		{[]api.Point{{Hash: 1, ID: -1}}, api.ErrState},
		{[]api.Point{{Hash: 1, ID: math.MinInt}}, api.ErrState},
		{[]api.Point{{Hash: 1, ID: -1}, {Hash: 2, ID: 1}}, api.ErrState},
		{[]api.Point{{Hash: 1, ID: 1}, {Hash: 2, ID: -1}}, api.ErrState},
		{[]api.Point{{Hash: 1, ID: 1}, {Hash: 2, ID: -1}, {Hash: 3, ID: 1}}, api.ErrState},
	} {
		if e := ring.Whole(c.r); e != c.want {
			t.Errorf("P12.1: Whole(%x): %d, want %d", c.r, e, c.want)
		}
	}
}

// TestWholeCountGoesAhead: too many points are that, whatever else they are.
func TestWholeCountGoesAhead(t *testing.T) {
	r := points(mostPoints)
	r[mostPoints/2].ID = -1
	if e := ring.Whole(r); e != api.ErrState {
		t.Errorf("P12.1: Whole of an ID below 0: %d, want %d", e, api.ErrState)
	}
	if e := ring.Whole(append(r, api.Point{})); e != api.ErrCount {
		t.Errorf("P12.1: Whole of too many: %d, want %d", e, api.ErrCount)
	}
}

func TestLookup(t *testing.T) {
	three := []api.Point{{Hash: 10, ID: 1}, {Hash: 20, ID: 2}, {Hash: 30, ID: 1}}
	alike := []api.Point{{Hash: 10, ID: 4}, {Hash: 10, ID: 7}, {Hash: 10, ID: 7}, {Hash: math.MaxUint64, ID: 5}, {Hash: math.MaxUint64, ID: 6}}
	low := []api.Point{{Hash: 0, ID: 8}, {Hash: 1, ID: 9}}
	for _, c := range []struct {
		r    []api.Point
		hash uint64
		want int
	}{
		{three, 0, 1}, {three, 9, 1}, {three, 10, 1}, {three, 11, 2}, {three, 15, 2}, {three, 20, 2}, {three, 21, 1}, {three, 30, 1}, {three, 31, 1}, {three, math.MaxUint64, 1},
		{three[:2], 20, 2}, {three[:2], 21, 1}, {three[1:], 31, 2}, {three[1:], 1 << 63, 2}, {three[1:], 0, 2}, {three[1:], 21, 1},
		{alike, 0, 4}, {alike, 10, 4}, {alike, 11, 5}, {alike, math.MaxUint64 - 1, 5}, {alike, math.MaxUint64, 5},
		{low, 0, 8}, {low, 1, 9}, {low, 2, 8}, {low, math.MaxUint64, 8},
		{[]api.Point{{Hash: 5, ID: math.MaxInt}}, 6, math.MaxInt},
	} {
		if id, e := ring.Lookup(c.r, c.hash); id != c.want || e != api.OK {
			t.Errorf("P12.2: Lookup(%x, %x): %d %d, want %d", c.r, c.hash, id, e, c.want)
		}
	}
}

func TestWalk(t *testing.T) {
	four := []api.Point{{Hash: 10, ID: 1}, {Hash: 20, ID: 2}, {Hash: 30, ID: 1}, {Hash: 40, ID: 0}}
	alike := []api.Point{{Hash: 10, ID: 4}, {Hash: 10, ID: 7}, {Hash: 10, ID: 7}, {Hash: math.MaxUint64, ID: 5}, {Hash: math.MaxUint64, ID: 6}}
	for _, c := range []struct {
		r    []api.Point
		hash uint64
		want []int
	}{
		{four, 0, []int{1, 2, 0}}, {four, 10, []int{1, 2, 0}}, {four, 11, []int{2, 1, 0}}, {four, 20, []int{2, 1, 0}}, {four, 21, []int{1, 0, 2}}, {four, 30, []int{1, 0, 2}},
		{four, 31, []int{0, 1, 2}}, {four, 40, []int{0, 1, 2}}, {four, 41, []int{1, 2, 0}}, {four, math.MaxUint64, []int{1, 2, 0}},
		{four[:1], 0, []int{1}}, {four[:1], 11, []int{1}},
		{alike, 0, []int{4, 7, 5, 6}}, {alike, 10, []int{4, 7, 5, 6}}, {alike, 11, []int{5, 6, 4, 7}}, {alike, math.MaxUint64, []int{5, 6, 4, 7}},
		{[]api.Point{{Hash: 3, ID: 6}, {Hash: 3, ID: 6}, {Hash: 4, ID: 6}}, 4, []int{6}},
	} {
		if l, e := ring.Walk(c.r, c.hash); !slices.Equal(l, c.want) || e != api.OK {
			t.Errorf("P12.2: Walk(%x, %x): %d %d, want %d", c.r, c.hash, l, e, c.want)
		}
	}
}

// TestOfBuilt: what a separate program told of these backends.
func TestOfBuilt(t *testing.T) {
	r := built(t, 8, api.Backend{ID: 0, Weight: 1}, api.Backend{ID: 1, Weight: 2}, api.Backend{ID: 5, Weight: 4}, api.Backend{ID: mostID, Weight: 16})
	for _, c := range []struct {
		hash uint64
		want []int
	}{
		{0, []int{mostID, 5, 1, 0}},
		{77, []int{mostID, 5, 1, 0}},
		{0x6cfbf56edacb5, []int{mostID, 5, 1, 0}},
		{0x6cfbf56edacb6, []int{5, mostID, 1, 0}},
		{1 << 62, []int{5, mostID, 0, 1}},
		{1 << 63, []int{mostID, 1, 5, 0}},
		{0x123456789abcdef0, []int{mostID, 5, 1, 0}},
		{0xff63ed99b2fc09e4, []int{mostID, 5, 1, 0}},
		{math.MaxUint64, []int{mostID, 5, 1, 0}},
	} {
		if l, e := ring.Walk(r, c.hash); !slices.Equal(l, c.want) || e != api.OK {
			t.Errorf("P12.2: Walk(.., %x): %d %d, want %d", c.hash, l, e, c.want)
		}
		if id, e := ring.Lookup(r, c.hash); id != c.want[0] || e != api.OK {
			t.Errorf("P12.2: Lookup(.., %x): %d %d, want %d", c.hash, id, e, c.want[0])
		}
	}
	for _, c := range []struct {
		keys int
		want []int
	}{
		{0, []int{0, 0, 0, 0}},
		{1, []int{0, 0, 0, 1}},
		{2, []int{0, 0, 0, 2}},
		{10, []int{1, 2, 2, 5}},
		{100, []int{8, 9, 15, 68}},
		{1000, []int{82, 101, 161, 656}},
		{mostKeys - 1, []int{328, 414, 652, 2701}},
		{mostKeys, []int{328, 414, 652, 2702}},
	} {
		if l, e := ring.Shares(r, c.keys); !slices.Equal(l, c.want) || e != api.OK {
			t.Errorf("P12.2: Shares(.., %d): %d %d, want %d", c.keys, l, e, c.want)
		}
	}
}

// TestOfFull: as many points and backends as may be.
func TestOfFull(t *testing.T) {
	r := built(t, 2, row(mostBackends, mostWeight)...)
	walk := []int{8, 5, 28, 0, 4, 14, 26, 25, 20, 17, 19, 9, 6, 21, 31, 16, 1, 13, 27, 10, 11, 3, 23, 22, 7, 29, 2, 12, 30, 24, 15, 18}
	if l, e := ring.Walk(r, 0); !slices.Equal(l, walk) || e != api.OK {
		t.Errorf("P12.2: Walk of 32 backends: %d %d, want %d", l, e, walk)
	}
	shares := []int{122, 168, 114, 169, 129, 121, 172, 126, 152, 123, 102, 144, 105, 123, 120, 106, 146, 106, 152, 187, 82, 141, 146, 132, 92, 162, 110, 99, 137, 97, 99, 112}
	if l, e := ring.Shares(r, mostKeys); !slices.Equal(l, shares) || e != api.OK {
		t.Errorf("P12.2: Shares of 32 backends: %d %d, want %d", l, e, shares)
	}
	r = built(t, mostEach, row(16, 1)...)
	shares = []int{265, 294, 266, 248, 229, 299, 256, 308, 213, 265, 301, 204, 228, 191, 296, 233}
	if l, e := ring.Shares(r, mostKeys); !slices.Equal(l, shares) || e != api.OK {
		t.Errorf("P12.2: Shares of 16 backends: %d %d, want %d", l, e, shares)
	}
}

// TestOfManyIDs: a ring that no Build made may have an ID a point.
func TestOfManyIDs(t *testing.T) {
	var r []api.Point
	for i := range mostPoints {
		r = append(r, api.Point{Hash: uint64(i) << 54, ID: 5000 - i})
	}
	l, e := ring.Walk(r, 7<<54)
	if len(l) != mostPoints || l[0] != 4993 || l[mostPoints-1] != 4994 || e != api.OK {
		t.Errorf("P12.2: Walk of 1024 IDs: %d, %d", l, e)
	}
	want, _ := slowShares(r, mostKeys)
	if l, e := ring.Shares(r, mostKeys); !slices.Equal(l, want) || e != api.OK {
		t.Errorf("P12.2: Shares of 1024 IDs: %d %d, want %d", l, e, want)
	}
}

// asked holds P12.2 for a ring and a hash.
func asked(t *testing.T, r []api.Point, h uint64) {
	t.Helper()
	want, wrong := slowLookup(r, h)
	if id, e := ring.Lookup(r, h); id != want || e != wrong {
		t.Fatalf("P12.2: Lookup(%x, %x): %d %d, want %d %d", r, h, id, e, want, wrong)
	}
	ids, wrong := slowWalk(r, h)
	if l, e := ring.Walk(r, h); !slices.Equal(l, ids) || e != wrong {
		t.Fatalf("P12.2: Walk(%x, %x): %d %d, want %d %d", r, h, l, e, ids, wrong)
	}
}

// shared holds P12.2 for a ring and keys.
func shared(t *testing.T, r []api.Point, keys int) {
	t.Helper()
	want, wrong := slowShares(r, keys)
	if l, e := ring.Shares(r, keys); !slices.Equal(l, want) || e != wrong {
		t.Fatalf("P12.2: Shares(%x, %d): %d %d, want %d %d", r, keys, l, e, want, wrong)
	}
}

func TestOfAny(t *testing.T) {
	chance := rand.New(rand.NewSource(13))
	for range 300 {
		r := anyRing(chance)
		for _, h := range hashesOf(r) {
			asked(t, r, h)
		}
		shared(t, r, chance.Intn(200))
	}
	for range 20 {
		r, _ := slowBuild(1+chance.Intn(3), anyBackends(chance))
		for _, h := range hashesOf(r) {
			asked(t, r, h)
		}
		shared(t, r, chance.Intn(mostKeys+1))
	}
}

// TestOneBackend: it is looked up always.
func TestOneBackend(t *testing.T) {
	for _, b := range []api.Backend{{ID: 0, Weight: 1}, {ID: 3, Weight: mostWeight}, {ID: mostID, Weight: 2}} {
		for _, n := range []int{1, 2, mostEach} {
			r := built(t, n, b)
			for _, h := range hashesOf(r) {
				if id, e := ring.Lookup(r, h); id != b.ID || e != api.OK {
					t.Errorf("P12.2: Lookup of %v alone, %x: %d %d", b, h, id, e)
				}
				if l, e := ring.Walk(r, h); !slices.Equal(l, []int{b.ID}) || e != api.OK {
					t.Errorf("P12.2: Walk of %v alone, %x: %d %d", b, h, l, e)
				}
			}
			if l, e := ring.Shares(r, 100); !slices.Equal(l, []int{100}) || e != api.OK {
				t.Errorf("P12.2: Shares of %v alone: %d %d", b, l, e)
			}
		}
	}
}

// TestSharesAreAll: each key is somebody's.
func TestSharesAreAll(t *testing.T) {
	chance := rand.New(rand.NewSource(14))
	for range 100 {
		r, keys := anyRing(chance), chance.Intn(mostKeys+1)
		l, e := ring.Shares(r, keys)
		sum := 0
		for _, n := range l {
			sum += n
		}
		if sum != keys || e != api.OK {
			t.Errorf("P12.2: Shares(%x, %d): %d in all, %d", r, keys, sum, e)
		}
	}
}

// TestRingErrors: Whole's error goes ahead of no points, and that of keys that may not be.
func TestRingErrors(t *testing.T) {
	one := []api.Point{{Hash: 10, ID: 1}}
	for _, c := range []struct {
		r      []api.Point
		want   api.Errno
		shares api.Errno
	}{
		{nil, api.ErrNone, api.ErrNone},
		{[]api.Point{}, api.ErrNone, api.ErrNone},
		{[]api.Point{{Hash: 10, ID: -1}}, api.ErrState, api.ErrState},
		{[]api.Point{{Hash: 10, ID: 1}, {Hash: 9, ID: 1}}, api.ErrState, api.ErrState},
		{[]api.Point{{Hash: 10, ID: 1}, {Hash: 10, ID: 0}}, api.ErrState, api.ErrState},
		{points(mostPoints + 1), api.ErrCount, api.ErrCount},
		{one, api.OK, api.ErrRange},
		{points(mostPoints), api.OK, api.ErrRange},
	} {
		for _, h := range []uint64{0, 9, 10, 11, math.MaxUint64} {
			if c.want == api.OK {
				break
			}
			if id, e := ring.Lookup(c.r, h); id != 0 || e != c.want {
				t.Errorf("P12.2: Lookup(%x, %x): %d %d, want 0 and %d", c.r, h, id, e, c.want)
			}
			if l, e := ring.Walk(c.r, h); len(l) != 0 || e != c.want {
				t.Errorf("P12.2: Walk(%x, %x): %d %d, want none and %d", c.r, h, l, e, c.want)
			}
		}
		for _, keys := range []int{-1, -mostKeys, mostKeys + 1, math.MaxInt32, math.MinInt32, 1 << 32, 1<<32 + 1, math.MaxInt, math.MinInt} {
			if l, e := ring.Shares(c.r, keys); len(l) != 0 || e != c.shares {
				t.Errorf("P12.2: Shares(%x, %d): %d %d, want none and %d", c.r, keys, l, e, c.shares)
			}
		}
		for _, keys := range []int{0, 1, mostKeys} {
			if l, e := ring.Shares(c.r, keys); e != c.want || e != api.OK && len(l) != 0 {
				t.Errorf("P12.2: Shares(%x, %d): %d %d, want %d", c.r, keys, l, e, c.want)
			}
		}
	}
}

// TestWithoutOne: what belongs to another backend stays with it when one goes; a walk is the same without that one.
func TestWithoutOne(t *testing.T) {
	chance := rand.New(rand.NewSource(15))
	moved := 0
	for range 60 {
		l := anyBackends(chance)
		if len(l) < 2 {
			continue
		}
		for i := range l {
			l[i].Weight = 1 + l[i].Weight%4
		}
		n := 1 + chance.Intn(8)
		gone := chance.Intn(len(l))
		before, after := built(t, n, l...), built(t, n, slices.Concat(l[:gone], l[gone+1:])...)
		for _, h := range hashesOf(before) {
			moved += stays(t, before, after, h, l[gone].ID)
		}
	}
	if moved == 0 {
		t.Error("P12.3: nothing was the own of a backend that went")
	}
}

// stays answers 1 where a hash was the own of the backend that is gone.
func stays(t *testing.T, before, after []api.Point, h uint64, gone int) int {
	t.Helper()
	was, _ := ring.Lookup(before, h)
	is, e := ring.Lookup(after, h)
	if is == gone || e != api.OK || was != gone && is != was {
		t.Fatalf("P12.3: %x was %d's, is %d's (%d) without %d", h, was, is, e, gone)
	}
	walked, _ := ring.Walk(before, h)
	left, _ := ring.Walk(after, h)
	if !slices.Equal(left, slices.DeleteFunc(walked, func(id int) bool { return id == gone })) {
		t.Fatalf("P12.3: from %x without %d: %d, want %d", h, gone, left, walked)
	}
	if was == gone {
		return 1
	}
	return 0
}

// TestSharesWithoutOne: the shares of the others only grow, by what it had.
func TestSharesWithoutOne(t *testing.T) {
	l := []api.Backend{{ID: 2, Weight: 1}, {ID: 3, Weight: 3}, {ID: 50, Weight: 2}, {ID: 51, Weight: 5}, {ID: 1000, Weight: 1}}
	before, _ := ring.Shares(built(t, 20, l...), mostKeys)
	for gone := range l {
		after, e := ring.Shares(built(t, 20, slices.Concat(l[:gone], l[gone+1:])...), mostKeys)
		rest := slices.Delete(slices.Clone(before), gone, gone+1)
		more := 0
		for i := range after {
			if after[i] < rest[i] {
				t.Errorf("P12.3: without %d another loses: %d, was %d", l[gone].ID, after, rest)
			}
			more += after[i] - rest[i]
		}
		if more != before[gone] || more == 0 || e != api.OK {
			t.Errorf("P12.3: without %d the others have %d more, want %d", l[gone].ID, more, before[gone])
		}
	}
}

// TestWeightAdds: a point stays where it is when its backend has more of them.
func TestWeightAdds(t *testing.T) {
	few, many := built(t, 3, api.Backend{ID: 4, Weight: 2}), built(t, 3, api.Backend{ID: 4, Weight: 5})
	for _, p := range few {
		if !slices.Contains(many, p) {
			t.Errorf("P12.3: with more weight %x is gone", p)
		}
	}
	if five := built(t, 5, api.Backend{ID: 4, Weight: 3}); !slices.Equal(five, many) {
		t.Errorf("P12.1: 5 times 3 points are not 3 times 5: %x, %x", five, many)
	}
}

// TestNotChanged: what is handed in stays, with the room behind it.
func TestNotChanged(t *testing.T) {
	l := row(9, 2)
	l[8] = api.Backend{ID: -5, Weight: -6}
	r := []api.Point{{Hash: 10, ID: 3}, {Hash: 20, ID: 2}, {Hash: 30, ID: 1}, {Hash: 7, ID: 7}, {Hash: 6, ID: 6}}
	keptL, keptR := slices.Clone(l), slices.Clone(r)
	for _, n := range []int{0, 3, 8} {
		ring.Check(l[:n])
		ring.Build(3, l[:n]...)
	}
	for _, n := range []int{0, 3, 5} {
		ring.Whole(r[:n])
		ring.Lookup(r[:n], 15)
		ring.Walk(r[:n], 25)
		ring.Shares(r[:n], 50)
	}
	if !slices.Equal(l, keptL) || !slices.Equal(r, keptR) {
		t.Errorf("P12.4: what is handed in is changed: %v %v", l, r)
	}
}

// spoil writes over a list, to the end of its room.
func spoil[T any](l []T, with T) {
	l = l[:cap(l)]
	for i := range l {
		l[i] = with
	}
}

// TestNewMemory: an answer that is written over changes no argument and no other answer.
func TestNewMemory(t *testing.T) {
	l := row(8, 3)
	r := built(t, 5, l...)
	walk, _ := ring.Walk(r, 1<<63)
	shares, _ := ring.Shares(r, 500)
	keptR, keptWalk, keptShares := slices.Clone(r), slices.Clone(walk), slices.Clone(shares)
	same := func() bool {
		return slices.Equal(l, row(8, 3)) && slices.Equal(r, keptR) && slices.Equal(walk, keptWalk) && slices.Equal(shares, keptShares)
	}
	again := built(t, 5, l...)
	spoil(again, api.Point{ID: -1})
	ids, _ := ring.Walk(r, 1<<63)
	spoil(ids, -1)
	counts, _ := ring.Shares(r, 500)
	spoil(counts, -1)
	if !same() {
		t.Errorf("P12.4: an answer shares memory: %v %v %d %d", l, r, walk, shares)
	}
	r = built(t, 5, l...)
	walk, _ = ring.Walk(r, 1<<63)
	shares, _ = ring.Shares(r, 500)
	if !same() {
		t.Errorf("P12.4: an answer shares memory with what is kept: %v %d %d", r, walk, shares)
	}
}

// TestNotKept: a list that is changed behind a call changes no answer, and calls know nothing of each other.
func TestNotKept(t *testing.T) {
	l := row(4, 2)
	r := built(t, 4, l...)
	kept := slices.Clone(r)
	spoil(l, api.Backend{ID: 9, Weight: 9})
	if !slices.Equal(r, kept) {
		t.Errorf("P12.4: Build keeps what it was given: %v", r)
	}
	walk, _ := ring.Walk(r, 5)
	shares, _ := ring.Shares(r, 70)
	keptWalk, keptShares := slices.Clone(walk), slices.Clone(shares)
	spoil(r, api.Point{Hash: 1, ID: 77})
	if !slices.Equal(walk, keptWalk) || !slices.Equal(shares, keptShares) {
		t.Errorf("P12.4: Walk or Shares keeps what it was given: %d %d", walk, shares)
	}
	ring.Build(64, row(20, 9)...)
	ring.Walk(points(40), 3)
	ring.Shares(points(40), 4097)
	if again := built(t, 4, row(4, 2)...); !slices.Equal(again, kept) {
		t.Errorf("P12.4: Build hangs on the calls ahead: %v, want %v", again, kept)
	}
	if again, _ := ring.Walk(kept, 5); !slices.Equal(again, keptWalk) {
		t.Errorf("P12.4: Walk hangs on the calls ahead: %v, want %v", again, keptWalk)
	}
}

// TestAtOnce: goroutines that call at the same time are told what one is told.
func TestAtOnce(t *testing.T) {
	l := row(6, 3)
	r := built(t, 4, l...)
	ask := func() []int {
		again, e := ring.Build(4, l...)
		id, f := ring.Lookup(r, 1<<62)
		ids, _ := ring.Walk(again, 1<<63)
		shares, _ := ring.Shares(r, 300)
		return append(slices.Concat(ids, shares), id, int(e), int(f), int(ring.Check(l)), int(ring.Whole(r)))
	}
	want := ask()
	got := make([][]int, 16)
	var all sync.WaitGroup
	for i := range got {
		all.Go(func() {
			for range 50 {
				got[i] = ask()
			}
		})
	}
	all.Wait()
	for i, l := range got {
		if !slices.Equal(l, want) {
			t.Errorf("P12.4: goroutine %d is told %d, want %d", i, l, want)
		}
	}
}

// FuzzRing holds P12.1 to P12.3 for backends and points of any kind, told by octets.
func FuzzRing(f *testing.F) {
	f.Add([]byte{0, 1, 0, 1, 2, 3}, 2, uint64(5), 10)
	f.Add([]byte{0, 0}, 0, uint64(0), 0)
	f.Add([]byte{255, 255, 3, 4}, mostEach, uint64(math.MaxUint64), mostKeys)
	f.Add([]byte{1, 16, 1, 16, 1, 16, 1, 16, 1, 16}, 13, uint64(1)<<63, mostKeys+1)
	f.Fuzz(func(t *testing.T, b []byte, n int, h uint64, keys int) {
		if keys > 64 && keys <= mostKeys {
			keys %= 64
		}
		l, r := told(b)
		want, wrong := slowBuild(n, l)
		built, e := ring.Build(n, l...)
		if !slices.Equal(built, want) || e != wrong {
			t.Fatalf("P12.1: Build(%d, %v): %v %d, want %v %d", n, l, built, e, want, wrong)
		}
		if e := ring.Check(l); e != slowCheck(l) {
			t.Fatalf("P12.1: Check(%v): %d, want %d", l, e, slowCheck(l))
		}
		if e := ring.Whole(r); e != slowWhole(r) {
			t.Fatalf("P12.1: Whole(%v): %d, want %d", r, e, slowWhole(r))
		}
		for _, x := range [][]api.Point{r, built} {
			asked(t, x, h)
			shared(t, x, keys)
		}
		if len(l) > 1 && e == api.OK {
			after, _ := ring.Build(n, l[1:]...)
			stays(t, built, after, h, l[0].ID)
		}
	})
}

// told makes backends and points of octets, two each: steps that mostly rise.
func told(b []byte) ([]api.Backend, []api.Point) {
	var l []api.Backend
	var r []api.Point
	id, h := 0, uint64(0)
	for i := 0; i+1 < len(b); i += 2 {
		step := int(b[i])
		if step > 250 {
			step = []int{mostID - 5, -1, -300, 1 << 40, mostID}[step-251]
		}
		id += step
		h += uint64(step&7) << 60
		l = append(l, api.Backend{ID: id, Weight: int(int8(b[i+1]))})
		r = append(r, api.Point{Hash: h, ID: int(int8(b[i+1]))})
	}
	return l, r
}
