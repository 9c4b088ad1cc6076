package choice_test

import (
	"math"
	"math/rand"
	"slices"
	"sort"
	"sync"
	"testing"

	"waybill/api"
	"waybill/choice"
	"waybill/hash"
	"waybill/ring"
)

// The document's numbers, written out.
const (
	mostBackends = 32
	mostPoints   = 1024
	mostID       = 2147483647
	mostBusy     = 1048576
	mostSpread   = 4096
	stride       = 0x9e3779b97f4a7c15
)

// far are numbers that no ID, Busy or count of choices may be.
var far = []int{-1, -2, -mostBusy, -mostID, mostID + 1, math.MinInt32, 1 << 32, 1<<32 + 1, math.MaxInt - mostBusy, math.MaxInt, math.MinInt, math.MinInt + mostBusy}

// slowCheck goes by the words of the chapter in another way: each ID is held against all behind it.
func slowCheck(l []api.Load) api.Errno {
	if len(l) > mostBackends {
		return api.ErrCount
	}
	for _, x := range l {
		if x.ID < 0 || x.ID > mostID {
			return api.ErrRange
		}
		if x.Busy < 0 || x.Busy > mostBusy {
			return api.ErrRange
		}
	}
	for i, x := range l {
		for _, other := range l[i+1:] {
			if other.ID <= x.ID {
				return api.ErrTwice
			}
		}
	}
	return api.OK
}

// slowSome is slowCheck, and none are ErrNone.
func slowSome(l []api.Load) api.Errno {
	if e := slowCheck(l); e != api.OK {
		return e
	}
	if len(l) < 1 {
		return api.ErrNone
	}
	return api.OK
}

// slowLeast goes by the words of the chapter in another way: all are sorted.
func slowLeast(l []api.Load) (int, api.Errno) {
	if e := slowSome(l); e != api.OK {
		return 0, e
	}
	sorted := slices.Clone(l)
	sort.Slice(sorted, func(i, j int) bool {
		a, b := sorted[i], sorted[j]
		return a.Busy < b.Busy || a.Busy == b.Busy && a.ID < b.ID
	})
	return sorted[0].ID, api.OK
}

// slowDrawn are two places by the words of chapters 10 and 11, each draw straight from the state.
func slowDrawn(state uint64, n int) (int, int) {
	share := func(draws, n int) int {
		return int((hash.Mix(state+uint64(draws)*stride) >> 32) * uint64(n) >> 32)
	}
	first := share(1, n)
	var rest []int
	for place := range n {
		if place != first {
			rest = append(rest, place)
		}
	}
	return first, rest[share(2, n-1)]
}

// slowTwo goes by the words of the chapters.
func slowTwo(state uint64, l []api.Load) (uint64, int, api.Errno) {
	if e := slowSome(l); e != api.OK {
		return 0, 0, e
	}
	if len(l) == 1 {
		return state, l[0].ID, api.OK
	}
	first, second := slowDrawn(state, len(l))
	a, b := l[first], l[second]
	state += stride
	state += stride
	if a.Busy <= b.Busy {
		return state, a.ID, api.OK
	}
	return state, b.ID, api.OK
}

// slowWhole goes by the words of chapter 12.
func slowWhole(r []api.Point) api.Errno {
	if len(r) > mostPoints {
		return api.ErrCount
	}
	for i, p := range r {
		if p.ID < 0 || i > 0 && (r[i-1].Hash > p.Hash || r[i-1].Hash == p.Hash && r[i-1].ID > p.ID) {
			return api.ErrState
		}
	}
	return api.OK
}

// slowRing goes by the words of the chapters in another way: points that are nobody's of l are left out ahead of the look.
func slowRing(r []api.Point, h uint64, l []api.Load) (int, api.Errno) {
	if e := slowCheck(l); e != api.OK {
		return 0, e
	}
	if e := slowWhole(r); e != api.OK {
		return 0, e
	}
	var left []api.Point
	for _, p := range r {
		for _, x := range l {
			if x.ID == p.ID {
				left = append(left, p)
			}
		}
	}
	for _, p := range left {
		if p.Hash >= h {
			return p.ID, api.OK
		}
	}
	if len(left) == 0 {
		return 0, api.ErrNone
	}
	return left[0].ID, api.OK
}

// slowSpread goes by the words of the chapter: choices one after the other, each made known by its ID.
func slowSpread(state uint64, n int, l []api.Load) ([]api.Load, api.Errno) {
	if e := slowSome(l); e != api.OK {
		return nil, e
	}
	if n < 0 || n > mostSpread {
		return nil, api.ErrRange
	}
	for _, x := range l {
		if x.Busy+n > mostBusy {
			return nil, api.ErrRange
		}
	}
	out := append([]api.Load{}, l...)
	for range n {
		var id int
		state, id, _ = slowTwo(state, out)
		for i := range out {
			if out[i].ID == id {
				out[i].Busy++
			}
		}
	}
	return out, api.OK
}

// loads makes a list of pairs: an ID, a Busy.
func loads(pairs ...int) []api.Load {
	var l []api.Load
	for i := 0; i+1 < len(pairs); i += 2 {
		l = append(l, api.Load{ID: pairs[i], Busy: pairs[i+1]})
	}
	return l
}

// row is n loads from an ID on, the i-th as busy as 7 times i, modulo 5.
func row(first, n int) []api.Load {
	var l []api.Load
	for i := range n {
		l = append(l, api.Load{ID: first + i, Busy: 7 * i % 5})
	}
	return l
}

// busy is loads from an ID on, as busy as told.
func busy(first int, l ...int) []api.Load {
	var out []api.Load
	for i, n := range l {
		out = append(out, api.Load{ID: first + i, Busy: n})
	}
	return out
}

// anyLoads is loads that may be, few or many of them as busy as each other, some at the ends of their ranges.
func anyLoads(r *rand.Rand) []api.Load {
	var l []api.Load
	id, kinds := r.Intn(3), 1+r.Intn(6)
	for range r.Intn(1 + r.Intn(mostBackends+1)) {
		if id > mostID {
			break
		}
		l = append(l, api.Load{ID: id, Busy: []int{0, 1, 2, 500, mostBusy - 1, mostBusy}[r.Intn(kinds)]})
		id += 1 + r.Intn(4)
		if r.Intn(8) == 0 {
			id += 1 << r.Intn(31)
		}
	}
	return l
}

// anyRing is a ring of few hashes, so that points stand side by side on one, of IDs some of which are those of l.
func anyRing(r *rand.Rand, l []api.Load) []api.Point {
	hashes := []uint64{0, 1, 2, 10, 20, 1 << 32, 1<<63 - 1, 1 << 63, math.MaxUint64 - 1, math.MaxUint64}
	ids := []int{0, 1, 2, 5, 31, mostID, mostID + 1, math.MaxInt}
	for _, x := range l {
		ids = append(ids, x.ID)
	}
	var out []api.Point
	for range r.Intn(20) {
		out = append(out, api.Point{Hash: hashes[r.Intn(len(hashes))], ID: ids[r.Intn(len(ids))]})
	}
	sort.Slice(out, func(i, j int) bool {
		return out[i].Hash < out[j].Hash || out[i].Hash == out[j].Hash && out[i].ID < out[j].ID
	})
	return out
}

// wrongLoads are lists that may not be, with what is wrong with them.
func wrongLoads() map[api.Errno][][]api.Load {
	wrong := map[api.Errno][][]api.Load{
		api.ErrCount: {row(0, mostBackends+1), row(0, 1000), make([]api.Load, mostBackends+1), row(-5, mostBackends+1), make([]api.Load, 1<<16)},
		api.ErrTwice: {
			loads(0, 0, 0, 0), loads(4, 1, 4, 1), loads(4, 1, 4, 2), loads(4, 1, 3, 1), loads(1, 0, 0, 0), loads(mostID, 0, mostID, mostBusy), loads(mostID, 0, 0, 0),
			loads(1, 1, 5, 1, 9, 1, 5, 1), loads(1, 1, 5, 1, 9, 1, 9, 1), loads(1, 1, 1, 1, 2, 1), loads(2, 1, 1, 1, 3, 1), loads(1, 1, 3, 1, 2, 1, 4, 1),
			make([]api.Load, mostBackends), append(row(0, mostBackends-1), api.Load{}), append(row(0, mostBackends-1), api.Load{ID: mostBackends - 2}),
		},
	}
	var odd []api.Load
	for _, x := range far {
		odd = append(odd, api.Load{ID: x}, api.Load{ID: x, Busy: mostBusy}, api.Load{ID: x, Busy: x}, api.Load{ID: 5, Busy: x}, api.Load{ID: mostID, Busy: x}, api.Load{Busy: x})
	}
	odd = append(odd, api.Load{ID: 1, Busy: mostBusy + 1}, api.Load{ID: 3, Busy: mostID})
	a, b := api.Load{ID: 1, Busy: 1}, api.Load{ID: 2, Busy: 0}
	for _, x := range odd {
		// Where IDs do not rise as well, what is out of its range goes ahead, whichever of both comes first.
		wrong[api.ErrRange] = append(wrong[api.ErrRange], []api.Load{x}, []api.Load{x, a}, []api.Load{a, x}, []api.Load{a, x, b}, []api.Load{a, b, x},
			[]api.Load{b, a, x}, []api.Load{a, a, x}, []api.Load{x, a, a}, []api.Load{x, b, a}, []api.Load{x, x}, append(row(0, mostBackends-1), x))
	}
	return wrong
}

func TestCheck(t *testing.T) {
	for _, l := range [][]api.Load{
		nil, {}, {{}}, loads(0, 0), loads(0, mostBusy), loads(mostID, 0), loads(mostID, mostBusy), loads(1, 5, 2, 3), loads(1, 3, 2, 5), loads(1, 3, 2, 3),
		loads(0, 0, mostID, 0), loads(0, mostBusy, 1, 0, mostID-1, mostBusy-1, mostID, 1), row(0, mostBackends), row(0, mostBackends-1), row(mostID-mostBackends+1, mostBackends),
	} {
		if e := choice.Check(l); e != api.OK {
			t.Errorf("P14.1: Check(%v): %d, want %d", l, e, api.OK)
		}
	}
	for want, lists := range wrongLoads() {
		for _, l := range lists {
			if e := choice.Check(l); e != want {
				t.Errorf("P14.1: Check(%v): %d, want %d", l, e, want)
			}
		}
	}
}

// TestCheckOfAny: lists that may be, and such as have one number that was changed.
func TestCheckOfAny(t *testing.T) {
	r := rand.New(rand.NewSource(14))
	times := map[api.Errno]int{}
	for range 5000 {
		l := anyLoads(r)
		if e := choice.Check(l); e != api.OK {
			t.Fatalf("P14.1: Check(%v): %d, want %d", l, e, api.OK)
		}
		for range r.Intn(3) {
			l = append(l, api.Load{ID: r.Intn(1 << 31), Busy: r.Intn(mostBusy + 2)})
		}
		if len(l) > 0 {
			x := &l[r.Intn(len(l))]
			x.ID += r.Intn(7) - 3
			x.Busy += r.Intn(3) - 1
		}
		want := slowCheck(l)
		times[want]++
		if e := choice.Check(l); e != want {
			t.Fatalf("P14.1: Check(%v): %d, want %d", l, e, want)
		}
	}
	if times[api.OK] < 100 || times[api.ErrRange] < 100 || times[api.ErrTwice] < 100 {
		t.Errorf("P14.1: what Check answered was too much of a kind: %v", times)
	}
}

func TestLeast(t *testing.T) {
	for _, c := range []struct {
		l    []api.Load
		want int
	}{
		{loads(1, 5, 2, 3), 2},
		{loads(1, 3, 2, 5), 1},
		{loads(1, 3, 2, 3), 1},
		{loads(0, 0), 0},
		{loads(7, mostBusy), 7},
		{loads(mostID, mostBusy), mostID},
		{loads(0, mostBusy, mostID, mostBusy), 0},
		{loads(0, mostBusy, mostID, mostBusy-1), mostID},
		{loads(3, 1, 4, 0, 5, 2), 4},
		{loads(3, 2, 4, 1, 5, 0), 5},
		{loads(3, 0, 4, 1, 5, 2), 3},
		{loads(3, 2, 4, 1, 5, 1, 6, 1, 9, 2), 4},
		{loads(3, 1, 4, 2, 5, 1), 3},
		{loads(1, 0, 2, 0, 3, 0), 1},
		{row(10, mostBackends), 10},
		{row(10, mostBackends)[1:], 15},
		{append(busy(0, slices.Repeat([]int{4}, mostBackends-1)...), api.Load{ID: 900, Busy: 3}), 900},
	} {
		if id, e := choice.Least(c.l...); id != c.want || e != api.OK {
			t.Errorf("P14.1: Least(%v..): %d %d, want %d", c.l, id, e, c.want)
		}
	}
}

func TestLeastOfAny(t *testing.T) {
	r := rand.New(rand.NewSource(15))
	for range 5000 {
		l := anyLoads(r)
		want, wrong := slowLeast(l)
		if id, e := choice.Least(l...); id != want || e != wrong {
			t.Fatalf("P14.1: Least(%v..): %d %d, want %d %d", l, id, e, want, wrong)
		}
	}
}

// TestTwo: what a separate program told by the chapters' words.
func TestTwo(t *testing.T) {
	pair, like := loads(1, 5, 2, 3), loads(1, 5, 2, 5)
	four, five := loads(0, 2, 3, 2, 7, 2, mostID, 2), loads(1, 9, 4, 0, 5, 3, 8, 0, 20, 3)
	ends, most := loads(0, mostBusy, mostID, 0), row(10, mostBackends)
	for _, c := range []struct {
		state, next uint64
		pair, like  int
		four, five  int
		ends, most  int
	}{
		{0, 0x3c6ef372fe94f82a, 2, 2, 7, 8, mostID, 36},
		{1, 0x3c6ef372fe94f82b, 2, 2, mostID, 8, mostID, 38},
		{5, 0x3c6ef372fe94f82f, 2, 1, 3, 5, mostID, 23},
		{9, 0x3c6ef372fe94f833, 2, 1, 3, 4, mostID, 20},
		{77, 0x3c6ef372fe94f877, 2, 2, 7, 8, mostID, 38},
		{1 << 63, 0xbc6ef372fe94f82a, 2, 1, 0, 8, mostID, 12},
		{math.MaxUint64, 0x3c6ef372fe94f829, 2, 1, 0, 5, mostID, 14},
	} {
		for _, x := range []struct {
			l    []api.Load
			want int
		}{{pair, c.pair}, {like, c.like}, {four, c.four}, {five, c.five}, {ends, c.ends}, {most, c.most}} {
			if state, id, e := choice.Two(c.state, x.l...); state != c.next || id != x.want || e != api.OK {
				t.Errorf("P14.1: Two(%x, %v..): %x %d %d, want %x %d", c.state, x.l, state, id, e, c.next, x.want)
			}
		}
	}
}

// TestTwoOfOne: nothing is drawn where there is nothing to choose.
func TestTwoOfOne(t *testing.T) {
	for _, l := range [][]api.Load{loads(0, 0), loads(6, 4), loads(mostID, mostBusy)} {
		for _, state := range []uint64{0, 1, 77, 1 << 63, math.MaxUint64} {
			if next, id, e := choice.Two(state, l...); next != state || id != l[0].ID || e != api.OK {
				t.Errorf("P14.1: Two(%x, %v..): %x %d %d, want %x %d", state, l, next, id, e, state, l[0].ID)
			}
		}
	}
}

// TestTwoOfLike: of like ones the first drawn, not the lower.
func TestTwoOfLike(t *testing.T) {
	r := rand.New(rand.NewSource(16))
	lower, higher := 0, 0
	for range 2000 {
		n, state := 2+r.Intn(mostBackends-1), r.Uint64()
		first, second := slowDrawn(state, n)
		l := busy(100, slices.Repeat([]int{r.Intn(mostBusy + 1)}, n)...)
		if _, id, e := choice.Two(state, l...); id != 100+first || e != api.OK {
			t.Fatalf("P14.1: Two(%x, %v..): %d %d, want %d", state, l, id, e, 100+first)
		}
		if first < second {
			lower++
		} else {
			higher++
		}
	}
	if lower < 500 || higher < 500 {
		t.Errorf("P14.1: the first drawn was the lower %d times, the higher %d times", lower, higher)
	}
}

func TestTwoOfAny(t *testing.T) {
	r := rand.New(rand.NewSource(17))
	for range 5000 {
		l, state := anyLoads(r), r.Uint64()
		next, want, wrong := slowTwo(state, l)
		if s, id, e := choice.Two(state, l...); s != next || id != want || e != wrong {
			t.Fatalf("P14.1: Two(%x, %v..): %x %d %d, want %x %d %d", state, l, s, id, e, next, want, wrong)
		}
	}
}

// TestErrors: Check's error goes ahead of none in Least and Two, of the ring's in Ring, and of n's in Spread.
func TestErrors(t *testing.T) {
	wrong := wrongLoads()
	whole := []api.Point{{Hash: 10, ID: 1}, {Hash: 20, ID: 2}}
	rings := [][]api.Point{nil, {}, whole, {{Hash: 10, ID: -1}}, {{Hash: 10, ID: 1}, {Hash: 9, ID: 1}}, make([]api.Point, mostPoints+1)}
	for want, lists := range wrong {
		for _, l := range lists {
			for _, r := range rings {
				if id, e := choice.Ring(r, 15, l...); id != 0 || e != want {
					t.Errorf("P14.2: Ring(%d points, 15, %v..): %d %d, want 0 and %d", len(r), l, id, e, want)
				}
			}
		}
	}
	wrong[api.ErrNone] = [][]api.Load{nil, {}}
	for want, lists := range wrong {
		for _, l := range lists {
			if id, e := choice.Least(l...); id != 0 || e != want {
				t.Errorf("P14.1: Least(%v..): %d %d, want 0 and %d", l, id, e, want)
			}
			if state, id, e := choice.Two(77, l...); state != 0 || id != 0 || e != want {
				t.Errorf("P14.1: Two(77, %v..): %x %d %d, want 0, 0 and %d", l, state, id, e, want)
			}
			for _, n := range append([]int{0, 1, mostSpread, mostSpread + 1, mostBusy}, far...) {
				if out, e := choice.Spread(77, n, l...); len(out) != 0 || e != want {
					t.Errorf("P14.2: Spread(77, %d, %v..): %v %d, want none and %d", n, l, out, e, want)
				}
			}
		}
	}
}

// TestRing: what a separate program told by the chapters' words.
func TestRing(t *testing.T) {
	r, e := ring.Build(1, api.Backend{ID: 0, Weight: 1}, api.Backend{ID: 1, Weight: 1}, api.Backend{ID: 2, Weight: 2})
	if e != api.OK || len(r) != 4 {
		t.Fatalf("P12.1: Build: %x %d", r, e)
	}
	hashes := []uint64{0, 0x2f001c5a9cf66fa8, 0x2f001c5a9cf66fa9, 0x79a93482f6c9fc85, 0x79a93482f6c9fc86, 0x7d6e4ac38b2b1be2, 0x7d6e4ac38b2b1be3, 0xac7cb627ca2f4a0c, 0xac7cb627ca2f4a0d, math.MaxUint64}
	for _, c := range []struct {
		l    []api.Load
		want []int
	}{
		{loads(0, 0), []int{0, 0, 0, 0, 0, 0, 0, 0, 0, 0}},
		{loads(1, mostBusy), []int{1, 1, 1, 1, 1, 1, 1, 1, 1, 1}},
		{loads(2, 0), []int{2, 2, 2, 2, 2, 2, 2, 2, 2, 2}},
		{loads(2, 1, 3, 0), []int{2, 2, 2, 2, 2, 2, 2, 2, 2, 2}},
		{loads(0, 1, 2, 9), []int{2, 2, 2, 2, 0, 0, 2, 2, 2, 2}},
		{loads(1, 0, 2, 0), []int{1, 1, 2, 2, 2, 2, 2, 2, 1, 1}},
		{loads(0, 0, 1, 0), []int{1, 1, 0, 0, 0, 0, 1, 1, 1, 1}},
		{loads(0, 3, 1, 2, 2, 1), []int{1, 1, 2, 2, 0, 0, 2, 2, 1, 1}},
		{row(0, mostBackends), []int{1, 1, 2, 2, 0, 0, 2, 2, 1, 1}},
	} {
		for i, h := range hashes {
			if id, e := choice.Ring(r, h, c.l...); id != c.want[i] || e != api.OK {
				t.Errorf("P14.2: Ring(%x, %x, %v..): %d %d, want %d", r, h, c.l, id, e, c.want[i])
			}
		}
	}
}

// TestRingEdges: IDs at the ends of their range, points side by side on one Hash, IDs of the ring that no load has, as many points as may be.
func TestRingEdges(t *testing.T) {
	side := []api.Point{{Hash: 5, ID: 0}, {Hash: 5, ID: 3}, {Hash: 5, ID: 3}, {Hash: 5, ID: mostID}, {Hash: math.MaxUint64, ID: mostID + 1}, {Hash: math.MaxUint64, ID: math.MaxInt}}
	var many []api.Point
	for i := range mostPoints {
		many = append(many, api.Point{Hash: uint64(i), ID: i})
	}
	for _, c := range []struct {
		r    []api.Point
		h    uint64
		l    []api.Load
		want int
	}{
		{side, 0, loads(0, 9, 3, 0, mostID, 0), 0},
		{side, 5, loads(0, 9, 3, 0, mostID, 0), 0},
		{side, 5, loads(3, 9, mostID, 0), 3},
		{side, 5, loads(2, 0, mostID, mostBusy), mostID},
		{side, 6, loads(3, 9, mostID, 0), 3},
		{side, math.MaxUint64, loads(mostID, 0), mostID},
		{side, math.MaxUint64, loads(0, 1, mostID, 0), 0},
		{many, 0, loads(1023, 1), 1023},
		{many, 0, loads(500, 7, 1023, 1), 500},
		{many, 501, loads(500, 7, 1023, 1), 1023},
		{many, 1024, loads(500, 7, 1023, 1), 500},
		{many, 1023, loads(0, 0, 1023, 1), 1023},
		{many, 900, row(100, mostBackends), 100},
		{many, 115, row(100, mostBackends), 115},
		{many, 131, row(100, mostBackends), 131},
		{many, 132, row(100, mostBackends), 100},
	} {
		if id, e := choice.Ring(c.r, c.h, c.l...); id != c.want || e != api.OK {
			t.Errorf("P14.2: Ring(%d points, %x, %v..): %d %d, want %d", len(c.r), c.h, c.l, id, e, c.want)
		}
	}
}

// TestRingErrors: Whole's error goes ahead of an ID that is not on the ring.
func TestRingErrors(t *testing.T) {
	whole := []api.Point{{Hash: 10, ID: 1}, {Hash: 20, ID: 2}, {Hash: 20, ID: mostID + 1}}
	for _, c := range []struct {
		r    []api.Point
		l    []api.Load
		want api.Errno
	}{
		{nil, nil, api.ErrNone},
		{[]api.Point{}, []api.Load{}, api.ErrNone},
		{nil, loads(1, 0), api.ErrNone},
		{[]api.Point{}, row(0, mostBackends), api.ErrNone},
		{whole, nil, api.ErrNone},
		{whole, []api.Load{}, api.ErrNone},
		{whole, loads(0, 0), api.ErrNone},
		{whole, loads(0, 0, 3, 0, mostID, 0), api.ErrNone},
		{[]api.Point{{Hash: 10, ID: 1}, {Hash: 20, ID: -1}}, loads(1, 0), api.ErrState},
		{[]api.Point{{Hash: 10, ID: math.MinInt}}, nil, api.ErrState},
		{[]api.Point{{Hash: 10, ID: 1}, {Hash: 9, ID: 1}}, loads(1, 0), api.ErrState},
		{[]api.Point{{Hash: 10, ID: 1}, {Hash: 9, ID: 1}}, nil, api.ErrState},
		{[]api.Point{{Hash: 10, ID: 1}, {Hash: 9, ID: 1}}, loads(5, 0), api.ErrState},
		{[]api.Point{{Hash: 10, ID: 1}, {Hash: 10, ID: 0}}, loads(0, 0, 1, 0), api.ErrState},
		{make([]api.Point, mostPoints+1), loads(0, 0), api.ErrCount},
		{make([]api.Point, mostPoints+1), nil, api.ErrCount},
		{make([]api.Point, mostPoints+1), loads(5, 0), api.ErrCount},
	} {
		for _, h := range []uint64{0, 9, 10, 11, 20, math.MaxUint64} {
			if id, e := choice.Ring(c.r, h, c.l...); id != 0 || e != c.want {
				t.Errorf("P14.2: Ring(%d points, %x, %v..): %d %d, want 0 and %d", len(c.r), h, c.l, id, e, c.want)
			}
		}
	}
	if id, e := choice.Ring(make([]api.Point, mostPoints), 5, loads(0, 0)...); id != 0 || e != api.OK {
		t.Errorf("P14.2: Ring of %d points: %d %d", mostPoints, id, e)
	}
}

func TestRingOfAny(t *testing.T) {
	chance := rand.New(rand.NewSource(18))
	times := map[api.Errno]int{}
	for range 3000 {
		l := anyLoads(chance)
		r := anyRing(chance, l)
		hashes := []uint64{0, 1, 77, 1 << 63, math.MaxUint64, chance.Uint64()}
		for _, p := range r {
			hashes = append(hashes, p.Hash-1, p.Hash, p.Hash+1)
		}
		for _, h := range hashes {
			want, wrong := slowRing(r, h, l)
			times[wrong]++
			if id, e := choice.Ring(r, h, l...); id != want || e != wrong {
				t.Fatalf("P14.2: Ring(%x, %x, %v..): %d %d, want %d %d", r, h, l, id, e, want, wrong)
			}
		}
	}
	if times[api.OK] < 1000 || times[api.ErrNone] < 1000 {
		t.Errorf("P14.2: what Ring answered was too much of a kind: %v", times)
	}
}

// TestRingIsNotByLoad: how busy they are changes nothing, and where all may be chosen it is ring.Lookup.
func TestRingIsNotByLoad(t *testing.T) {
	var l []api.Backend
	for i := range 9 {
		l = append(l, api.Backend{ID: 3 * i, Weight: 1 + i%3})
	}
	r, _ := ring.Build(4, l...)
	chance := rand.New(rand.NewSource(19))
	for range 500 {
		var all []api.Load
		for _, b := range l {
			all = append(all, api.Load{ID: b.ID, Busy: chance.Intn(mostBusy + 1)})
		}
		h := chance.Uint64()
		want, _ := ring.Lookup(r, h)
		if id, e := choice.Ring(r, h, all...); id != want || e != api.OK {
			t.Fatalf("P14.2: Ring of all, %x: %d %d, want %d", h, id, e, want)
		}
	}
}

// TestSpread: what a separate program told by the chapters' words.
func TestSpread(t *testing.T) {
	one, pair, like := loads(6, 4), loads(1, 5, 2, 3), loads(1, 5, 2, 5)
	four, five, most := loads(0, 2, 3, 2, 7, 2, mostID, 2), loads(1, 9, 4, 0, 5, 3, 8, 0, 20, 3), row(10, mostBackends)
	for _, c := range []struct {
		state uint64
		n     int
		l     []api.Load
		want  []api.Load
	}{
		{0, 0, one, one}, {0, 0, pair, pair}, {0, 0, five, five}, {0, 0, most, most},
		{0, 1, one, loads(6, 5)}, {5, 7, one, loads(6, 11)}, {math.MaxUint64, mostSpread, one, loads(6, 4100)},
		{0, 1, pair, loads(1, 5, 2, 4)}, {5, 7, pair, loads(1, 8, 2, 7)}, {9, 100, pair, loads(1, 54, 2, 54)}, {math.MaxUint64, mostSpread, pair, loads(1, 2052, 2, 2052)},
		{0, 1, like, loads(1, 5, 2, 6)}, {5, 7, like, loads(1, 9, 2, 8)},
		{0, 1, four, loads(0, 2, 3, 2, 7, 3, mostID, 2)},
		{5, 7, four, loads(0, 4, 3, 4, 7, 3, mostID, 4)},
		{9, 100, four, loads(0, 27, 3, 27, 7, 27, mostID, 27)},
		{math.MaxUint64, mostSpread, four, loads(0, 1027, 3, 1026, 7, 1025, mostID, 1026)},
		{0, 1, five, loads(1, 9, 4, 0, 5, 3, 8, 1, 20, 3)},
		{5, 7, five, loads(1, 9, 4, 3, 5, 4, 8, 1, 20, 5)},
		{9, 100, five, loads(1, 23, 4, 24, 5, 23, 8, 23, 20, 22)},
		{math.MaxUint64, mostSpread, five, loads(1, 822, 4, 823, 5, 822, 8, 822, 20, 822)},
		{5, 7, most, busy(10, 0, 3, 4, 2, 3, 0, 3, 4, 1, 3, 0, 2, 4, 2, 3, 1, 2, 4, 1, 3, 0, 2, 4, 2, 3, 0, 2, 4, 2, 3, 0, 2)},
		{9, 100, most, busy(10, 3, 6, 6, 4, 6, 4, 3, 5, 5, 5, 4, 6, 5, 5, 5, 6, 6, 6, 5, 5, 6, 6, 6, 5, 5, 6, 6, 5, 3, 5, 3, 6)},
		{math.MaxUint64, mostSpread, most, busy(10, 130, 129, 129, 130, 131, 131, 130, 131, 131, 128, 130, 130, 131, 130, 130, 128, 129, 130, 131, 130, 130, 128, 131, 131, 130, 130, 130, 129, 130, 130, 129, 131)},
		{3, mostSpread, loads(0, mostBusy-mostSpread, 5, 0), loads(0, mostBusy-mostSpread, 5, mostSpread)},
		{3, 1, loads(0, mostBusy-1, 5, mostBusy-1), loads(0, mostBusy, 5, mostBusy-1)},
		{3, 0, loads(0, mostBusy, 5, mostBusy), loads(0, mostBusy, 5, mostBusy)},
		{3, mostSpread, loads(mostID, mostBusy-mostSpread), loads(mostID, mostBusy)},
	} {
		if out, e := choice.Spread(c.state, c.n, c.l...); !slices.Equal(out, c.want) || e != api.OK {
			t.Errorf("P14.2: Spread(%x, %d, %v..): %v %d, want %v", c.state, c.n, c.l, out, e, c.want)
		}
	}
}

// TestSpreadErrors: n that may not be, or with which a Busy, wherever it stands and be it never chosen, would be too much.
func TestSpreadErrors(t *testing.T) {
	for _, l := range [][]api.Load{loads(0, 0), loads(1, 5, 2, 3), loads(1, mostBusy), loads(1, 0, 2, mostBusy), row(0, mostBackends)} {
		for _, n := range append([]int{mostSpread + 1, -mostSpread, mostBusy, mostBusy + 1, mostID}, far...) {
			if out, e := choice.Spread(5, n, l...); len(out) != 0 || e != api.ErrRange {
				t.Errorf("P14.2: Spread(5, %d, %v..): %v %d, want none and %d", n, l, out, e, api.ErrRange)
			}
		}
	}
	for _, n := range []int{0, 1, 2, 77, mostSpread - 1, mostSpread} {
		for _, at := range []int{0, 7, mostBackends - 1} {
			l := row(0, mostBackends)
			l[at].Busy = mostBusy - n
			if out, e := choice.Spread(5, n, l...); len(out) != mostBackends || e != api.OK {
				t.Errorf("P14.2: Spread(5, %d, %v..): %v %d", n, l, out, e)
			}
			l[at].Busy++
			// With no choices at all the Busy itself may not be: an error of Check, and the same number.
			if out, e := choice.Spread(5, n, l...); len(out) != 0 || e != api.ErrRange {
				t.Errorf("P14.2: Spread(5, %d, %v..): %v %d, want none and %d", n, l, out, e, api.ErrRange)
			}
		}
	}
	if out, e := choice.Spread(5, 1, loads(1, mostBusy)...); len(out) != 0 || e != api.ErrRange {
		t.Errorf("P14.2: Spread of one that is as busy as may be: %v %d", out, e)
	}
}

func TestSpreadOfAny(t *testing.T) {
	r := rand.New(rand.NewSource(20))
	times := map[api.Errno]int{}
	for range 1500 {
		l, n, state := anyLoads(r), r.Intn(1+r.Intn(300))-1, r.Uint64()
		want, wrong := slowSpread(state, n, l)
		times[wrong]++
		out, e := choice.Spread(state, n, l...)
		if !slices.Equal(out, want) || e != wrong {
			t.Fatalf("P14.2: Spread(%x, %d, %v..): %v %d, want %v %d", state, n, l, out, e, want, wrong)
		}
	}
	if times[api.OK] < 100 || times[api.ErrNone] < 100 || times[api.ErrRange] < 100 {
		t.Errorf("P14.2: what Spread answered was too much of a kind: %v", times)
	}
}

// TestSpreadIsTwo: what Spread answers is choices by Two, one after the other.
func TestSpreadIsTwo(t *testing.T) {
	r := rand.New(rand.NewSource(21))
	for n := 1; n <= mostBackends; n++ {
		l, first := row(n, n), r.Uint64()
		want, state := slices.Clone(l), first
		for steps := range 60 {
			out, e := choice.Spread(first, steps, l...)
			if !slices.Equal(out, want) || e != api.OK {
				t.Fatalf("P14.2: Spread(%x, %d, %v..): %v %d, want %v", first, steps, l, out, e, want)
			}
			var id int
			state, id, _ = choice.Two(state, want...)
			want[id-n].Busy++
		}
	}
}

// held holds P14.3 for loads that may be.
func held(t *testing.T, l []api.Load, state uint64) {
	t.Helper()
	is := func(id int) int {
		return slices.IndexFunc(l, func(x api.Load) bool { return x.ID == id })
	}
	least, e := choice.Least(l...)
	if is(least) < 0 || e != api.OK {
		t.Fatalf("P14.3: Least(%v..): %d %d, which is none of them", l, least, e)
	}
	_, id, e := choice.Two(state, l...)
	at := is(id)
	if at < 0 || e != api.OK {
		t.Fatalf("P14.3: Two(%x, %v..): %d %d, which is none of them", state, l, id, e)
	}
	above := func(x api.Load) bool { return x.ID != id && x.Busy >= l[at].Busy }
	if len(l) > 1 && !slices.ContainsFunc(l, above) {
		t.Fatalf("P14.3: Two(%x, %v..): %d, which is alone the busiest", state, l, id)
	}
}

func TestChosen(t *testing.T) {
	r := rand.New(rand.NewSource(22))
	for range 5000 {
		if l := anyLoads(r); len(l) > 0 {
			held(t, l, r.Uint64())
		}
	}
	for n := 2; n <= mostBackends; n++ {
		for at := range n {
			l := busy(5, make([]int, n)...)
			l[at].Busy = 1
			for range 20 {
				state := r.Uint64()
				held(t, l, state)
				if _, id, _ := choice.Two(state, l...); id == 5+at {
					t.Fatalf("P14.3: Two(%x, %v..): %d, which is alone the busiest", state, l, id)
				}
			}
		}
	}
}

// TestChosenOnRing: it is one of them, and on the ring, whoever else is there.
func TestChosenOnRing(t *testing.T) {
	chance := rand.New(rand.NewSource(23))
	for range 3000 {
		l := anyLoads(chance)
		r, h := anyRing(chance, l), chance.Uint64()
		id, e := choice.Ring(r, h, l...)
		loaded := slices.ContainsFunc(l, func(x api.Load) bool { return x.ID == id })
		there := slices.ContainsFunc(r, func(p api.Point) bool { return p.ID == id })
		if e == api.OK && (!loaded || !there) {
			t.Fatalf("P14.3: Ring(%x, %x, %v..): %d, which is none of them", r, h, l, id)
		}
	}
}

// TestAllAreChosen: with states of any kind each one that may be chosen is, and behind many choices loads that were far apart are near.
func TestAllAreChosen(t *testing.T) {
	l := busy(0, 0, 1, 2, 3, 4, 5, 6, 7)
	times := make([]int, len(l))
	state := uint64(3)
	for range 4000 {
		var id int
		state, id, _ = choice.Two(state, l...)
		times[id]++
	}
	// The i-th of 8 is the less busy one of 7 - i of 28 pairs.
	for id, n := range times {
		if want := 4000 * (7 - id) / 28; n < want*8/10 || n > want*12/10 {
			t.Errorf("P14.1: %d is chosen %d times of 4000, want some %d", id, n, want)
		}
	}
	out, _ := choice.Spread(3, mostSpread, busy(0, 0, 100, 200, 300)...)
	less := func(a, b api.Load) int { return a.Busy - b.Busy }
	if slices.MaxFunc(out, less).Busy-slices.MinFunc(out, less).Busy > 20 {
		t.Errorf("P14.2: behind %d choices: %v", mostSpread, out)
	}
}

// TestNotChanged: what is handed in stays, with the room behind it.
func TestNotChanged(t *testing.T) {
	l := append(loads(2, 9, 3, 0, 5, 7, 8, 7), loads(-5, -6, 3, 3)...)
	r := []api.Point{{Hash: 10, ID: 3}, {Hash: 20, ID: 2}, {Hash: 30, ID: 8}, {Hash: 7, ID: 7}, {Hash: 6, ID: 6}}
	keptL, keptR := slices.Clone(l), slices.Clone(r)
	for n := range len(l) + 1 {
		choice.Check(l[:n])
		choice.Least(l[:n]...)
		choice.Two(5, l[:n]...)
		for _, points := range []int{0, 3, 5} {
			choice.Ring(r[:points], 25, l[:n]...)
		}
		for _, steps := range []int{-1, 0, 1, 500, mostSpread + 1} {
			choice.Spread(5, steps, l[:n]...)
		}
	}
	if !slices.Equal(l, keptL) || !slices.Equal(r, keptR) {
		t.Errorf("P14.4: what is handed in is changed: %v %v", l, r)
	}
}

// spoil writes over a list, to the end of its room.
func spoil(l []api.Load) {
	l = l[:cap(l)]
	for i := range l {
		l[i] = api.Load{ID: -77, Busy: -77}
	}
}

// TestNewMemory: an answer that is written over changes no argument and no other answer, be it that nothing was chosen.
func TestNewMemory(t *testing.T) {
	for _, steps := range []int{0, 1, 100, mostSpread} {
		for _, n := range []int{1, 2, 9, mostBackends} {
			l := row(3, n)
			out, _ := choice.Spread(5, steps, l...)
			kept := slices.Clone(out)
			for range 2 {
				again, e := choice.Spread(5, steps, l...)
				if !slices.Equal(again, kept) || e != api.OK {
					t.Errorf("P14.4: Spread shares memory with what is kept: %v %d, want %v", again, e, kept)
				}
				spoil(again)
			}
			if !slices.Equal(l, row(3, n)) || !slices.Equal(out, kept) {
				t.Errorf("P14.4: an answer of Spread shares memory: %v %v", l, out)
			}
		}
	}
}

// TestNotKept: a list that is changed behind a call changes no answer, and calls know nothing of each other.
func TestNotKept(t *testing.T) {
	for _, steps := range []int{0, 1, 100} {
		l := row(3, 6)
		out, _ := choice.Spread(5, steps, l...)
		kept := slices.Clone(out)
		spoil(l)
		if !slices.Equal(out, kept) {
			t.Errorf("P14.4: Spread keeps what it was given: %v, want %v", out, kept)
		}
		choice.Spread(9, mostSpread, row(0, mostBackends)...)
		choice.Spread(9, mostSpread+1, row(0, mostBackends)...)
		choice.Two(8, row(7, 7)...)
		choice.Least(loads(4, 0, 3, 0)...)
		if again, e := choice.Spread(5, steps, row(3, 6)...); !slices.Equal(again, kept) || e != api.OK {
			t.Errorf("P14.4: Spread hangs on the calls ahead: %v %d, want %v", again, e, kept)
		}
	}
	state, id, _ := choice.Two(5, row(3, 6)...)
	choice.Two(state, row(3, 6)...)
	if again, other, e := choice.Two(5, row(3, 6)...); again != state || other != id || e != api.OK {
		t.Errorf("P14.4: Two hangs on the calls ahead: %x %d %d, want %x %d", again, other, e, state, id)
	}
}

// TestAtOnce: goroutines that call at the same time are told what one is told.
func TestAtOnce(t *testing.T) {
	l := row(0, 12)
	r, _ := ring.Build(4, api.Backend{ID: 3, Weight: 2}, api.Backend{ID: 5, Weight: 1}, api.Backend{ID: 20, Weight: 3})
	ask := func() []int {
		least, e := choice.Least(l...)
		state, id, f := choice.Two(77, l...)
		met, g := choice.Ring(r, 1<<62, l...)
		out, h := choice.Spread(state, 40, l...)
		told := []int{least, int(e), int(state >> 1), id, int(f), met, int(g), int(h), int(choice.Check(l))}
		for _, x := range out {
			told = append(told, x.ID, x.Busy)
		}
		return told
	}
	want := ask()
	got := make([][]int, 16)
	var all sync.WaitGroup
	for i := range got {
		all.Go(func() {
			for range 50 {
				got[i] = ask()
			}
		})
	}
	all.Wait()
	for i, l := range got {
		if !slices.Equal(l, want) {
			t.Errorf("P14.4: goroutine %d is told %d, want %d", i, l, want)
		}
	}
}

// FuzzChoice holds P14.1 to P14.3 for loads and points of any kind, told by octets.
func FuzzChoice(f *testing.F) {
	f.Add([]byte{1, 5, 1, 3}, uint64(5), 10)
	f.Add([]byte{}, uint64(0), 0)
	f.Add([]byte{1, 0, 1, 0, 1, 0, 251, 255}, uint64(math.MaxUint64), 1)
	f.Add([]byte{1, 254, 252, 4, 1, 253}, uint64(1)<<63, mostSpread+1)
	f.Fuzz(func(t *testing.T, b []byte, state uint64, n int) {
		if n > 64 && n <= mostSpread {
			n %= 64
		}
		l, r := told(b)
		if e := choice.Check(l); e != slowCheck(l) {
			t.Fatalf("P14.1: Check(%v): %d, want %d", l, e, slowCheck(l))
		}
		want, wrong := slowLeast(l)
		if id, e := choice.Least(l...); id != want || e != wrong {
			t.Fatalf("P14.1: Least(%v..): %d %d, want %d %d", l, id, e, want, wrong)
		}
		next, want, wrong := slowTwo(state, l)
		if s, id, e := choice.Two(state, l...); s != next || id != want || e != wrong {
			t.Fatalf("P14.1: Two(%x, %v..): %x %d %d, want %x %d %d", state, l, s, id, e, next, want, wrong)
		}
		if wrong == api.OK {
			held(t, l, state)
		}
		want, wrong = slowRing(r, state, l)
		if id, e := choice.Ring(r, state, l...); id != want || e != wrong {
			t.Fatalf("P14.2: Ring(%x, %x, %v..): %d %d, want %d %d", r, state, l, id, e, want, wrong)
		}
		spread, wrong := slowSpread(state, n, l)
		if out, e := choice.Spread(state, n, l...); !slices.Equal(out, spread) || e != wrong {
			t.Fatalf("P14.2: Spread(%x, %d, %v..): %v %d, want %v %d", state, n, l, out, e, spread, wrong)
		}
	})
}

// told makes loads and points of octets, two each: steps that mostly rise.
func told(b []byte) ([]api.Load, []api.Point) {
	var l []api.Load
	var r []api.Point
	id, h := 0, uint64(0)
	for i := 0; i+1 < len(b); i += 2 {
		step, load := int(b[i]), int(b[i+1])
		if step > 250 {
			step = []int{mostID - 5, -1, -300, 1 << 40, mostID}[step-251]
		}
		if load > 250 {
			load = []int{mostBusy, mostBusy + 1, mostBusy - 1, -1, math.MaxInt}[load-251]
		}
		id += step
		h += uint64(step&7) << 60
		l = append(l, api.Load{ID: id, Busy: load})
		r = append(r, api.Point{Hash: h, ID: load})
	}
	return l, r
}
