package subset_test

import (
	"math"
	"math/rand"
	"slices"
	"sort"
	"sync"
	"testing"

	"waybill/api"
	"waybill/hash"
	"waybill/subset"
)

// The document's numbers, written out.
const (
	mostBackends = 32
	mostClient   = 1048576
	mostCounted  = 256
	mostID       = 2147483647
	stride       = 0x9e3779b97f4a7c15
)

// beyond are numbers that no count, client or size may be.
var beyond = []int{-1, -2, -mostBackends, mostClient + 1, math.MaxInt32, math.MinInt32, 1 << 32, 1<<32 + 1, math.MaxInt, math.MinInt}

// slowRound goes by the words of the chapter in another way: clients are counted off one by one, within a range that time allows.
func slowRound(n, client, size int) (int, int, api.Errno) {
	if n < 0 || n > mostBackends || client < 0 || client > mostClient || size < 1 || size > mostBackends {
		return 0, 0, api.ErrRange
	}
	if n <= size {
		return 0, 0, api.OK
	}
	each := 0
	for each*size+size <= n {
		each++
	}
	round := 0
	for (round+1)*each <= client {
		round++
	}
	return round, client - round*each, api.OK
}

// slowOrder is a round's order by the words of chapters 10 and 11: each draw straight from the first state.
func slowOrder(n, round int, seed uint64) []int {
	var order []int
	for i := range n {
		order = append(order, i)
	}
	state := hash.Mix(seed + uint64(round))
	for place := n - 1; place >= 1; place-- {
		x := hash.Mix(state + uint64(n-place)*stride)
		other := int((x >> 32) * uint64(place+1) >> 32)
		order[place], order[other] = order[other], order[place]
	}
	return order
}

// slowOf goes by the words of the chapter in another way: each ID is asked whether it stands among the client's.
func slowOf(ids []int, client, size int, seed uint64) ([]int, api.Errno) {
	if len(ids) > mostBackends {
		return nil, api.ErrCount
	}
	for i, id := range ids {
		if id < 0 || i > 0 && id <= ids[i-1] {
			return nil, api.ErrState
		}
	}
	round, place, e := slowRound(len(ids), client, size)
	if e != api.OK {
		return nil, e
	}
	if len(ids) <= size {
		return slices.Clone(ids), api.OK
	}
	order := slowOrder(len(ids), round, seed)
	var out []int
	for i, id := range ids {
		if slices.Index(order, i)/size == place {
			out = append(out, id)
		}
	}
	return out, api.OK
}

// slowCounts goes by the words of the chapter: each client's subset, whole.
func slowCounts(ids []int, clients, size int, seed uint64) ([]int, api.Errno) {
	if _, e := slowOf(ids, 0, size, seed); e != api.OK {
		return nil, e
	}
	if clients < 0 || clients > mostCounted {
		return nil, api.ErrRange
	}
	counts := make([]int, len(ids))
	for client := range clients {
		l, _ := slowOf(ids, client, size, seed)
		for i, id := range ids {
			if slices.Contains(l, id) {
				counts[i]++
			}
		}
	}
	return counts, api.OK
}

// slowNot goes by the words of the chapter: those of l that are not in other, each once, rising.
func slowNot(l, other []int) []int {
	var out []int
	for _, id := range l {
		if !slices.Contains(other, id) && !slices.Contains(out, id) {
			out = append(out, id)
		}
	}
	sort.Ints(out)
	return out
}

// row is n IDs from first on.
func row(first, n int) []int {
	var l []int
	for i := range n {
		l = append(l, first+i)
	}
	return l
}

// anyIDs is IDs that may be, some of them far apart.
func anyIDs(r *rand.Rand) []int {
	var l []int
	id := r.Intn(3)
	for range r.Intn(mostBackends + 1) {
		l = append(l, id)
		id += 1 + r.Intn(4)
		if r.Intn(8) == 0 {
			id += 1 << r.Intn(50)
		}
	}
	return l
}

// anyList is few numbers in any order, many of them more than once.
func anyList(r *rand.Rand) []int {
	var l []int
	for range r.Intn(20) {
		l = append(l, []int{0, 1, 2, 3, 4, 5, 9, 31, mostID, -1, -2, -7, math.MaxInt, math.MinInt, 1 << 32}[r.Intn(15)])
	}
	return l
}

func TestRound(t *testing.T) {
	for _, c := range []struct{ n, client, size, round, place int }{
		{6, 0, 2, 0, 0},
		{6, 1, 2, 0, 1},
		{6, 2, 2, 0, 2},
		{6, 3, 2, 1, 0},
		{6, 5, 2, 1, 2},
		{7, 5, 2, 1, 2},
		{8, 5, 2, 1, 1},
		{7, 6, 3, 3, 0},
		{7, 7, 3, 3, 1},
		{7, 7, 4, 7, 0},
		{7, 7, 6, 7, 0},
		{7, 7, 7, 0, 0},
		{7, 7, 8, 0, 0},
		{7, 7, mostBackends, 0, 0},
		{0, 0, 1, 0, 0},
		{0, mostClient, mostBackends, 0, 0},
		{1, mostClient, 1, 0, 0},
		{2, mostClient, 1, 524288, 0},
		{2, mostClient - 1, 1, 524287, 1},
		{2, mostClient, 2, 0, 0},
		{3, mostClient, 2, mostClient, 0},
		{mostBackends, mostClient, 1, 32768, 0},
		{mostBackends, mostClient - 1, 1, 32767, 31},
		{mostBackends, 31, 1, 0, 31},
		{mostBackends, 32, 1, 1, 0},
		{mostBackends, 9, 5, 1, 3},
		{mostBackends, mostClient, 16, 524288, 0},
		{mostBackends, mostClient, 17, mostClient, 0},
		{mostBackends, mostClient, mostBackends - 1, mostClient, 0},
		{mostBackends, mostClient, mostBackends, 0, 0},
	} {
		if round, place, e := subset.Round(c.n, c.client, c.size); round != c.round || place != c.place || e != api.OK {
			t.Errorf("P13.1: Round(%d, %d, %d): %d %d %d, want %d %d", c.n, c.client, c.size, round, place, e, c.round, c.place)
		}
	}
}

// TestRoundOfAll: every count and size that may be, the first clients one by one.
func TestRoundOfAll(t *testing.T) {
	for n := range mostBackends + 1 {
		for size := 1; size <= mostBackends; size++ {
			for client := range 70 {
				want, at, _ := slowRound(n, client, size)
				if round, place, e := subset.Round(n, client, size); round != want || place != at || e != api.OK {
					t.Fatalf("P13.1: Round(%d, %d, %d): %d %d %d, want %d %d", n, client, size, round, place, e, want, at)
				}
			}
		}
	}
}

func TestRoundErrors(t *testing.T) {
	wrong := func(n, client, size int) {
		t.Helper()
		if round, place, e := subset.Round(n, client, size); round != 0 || place != 0 || e != api.ErrRange {
			t.Errorf("P13.1: Round(%d, %d, %d): %d %d %d, want 0, 0 and %d", n, client, size, round, place, e, api.ErrRange)
		}
	}
	for _, x := range append([]int{mostBackends + 1, mostClient}, beyond...) {
		wrong(x, 3, 2)
		wrong(x, 0, 1)
		wrong(x, mostClient, mostBackends)
		wrong(6, 3, x)
		wrong(0, 0, x)
		wrong(mostBackends, mostClient, x)
		wrong(x, 3, x)
	}
	for _, x := range beyond {
		wrong(6, x, 2)
		wrong(0, x, 1)
		wrong(2, x, 2)
		wrong(2, x, 3)
		wrong(mostBackends, x, mostBackends)
		wrong(x, x, x)
	}
	wrong(6, 3, 0)
	wrong(0, 0, 0)
}

// TestOf: what a separate program told by the chapter's words.
func TestOf(t *testing.T) {
	six, seven, most := []int{1, 2, 4, 8, 16, 32}, row(0, 7), row(100, mostBackends)
	great := []int{0, 5, mostID, mostID + 1, math.MaxInt}
	for _, c := range []struct {
		ids    []int
		client int
		size   int
		seed   uint64
		want   []int
	}{
		{six, 0, 2, 0, []int{1, 4}},
		{six, 1, 2, 0, []int{2, 32}},
		{six, 2, 2, 0, []int{8, 16}},
		{six, 3, 2, 0, []int{4, 16}},
		{six, 4, 2, 0, []int{8, 32}},
		{six, 5, 2, 0, []int{1, 2}},
		{six, 6, 2, 0, []int{1, 8}},
		{six, mostClient, 2, 0, []int{4, 32}},
		{six, 1, 2, 1, []int{8, 32}},
		{six, 1, 2, 77, []int{4, 8}},
		{six, 1, 2, 1 << 63, []int{16, 32}},
		{six, 1, 2, math.MaxUint64, []int{4, 32}},
		{six, 2, 1, 0, []int{2}},
		{six, 2, 3, 0, []int{4, 16, 32}},
		{six, 2, 4, 0, []int{1, 2, 8, 32}},
		{six, 2, 5, 0, []int{1, 2, 8, 16, 32}},
		{seven, 0, 3, 0, []int{0, 2, 3}},
		{seven, 1, 3, 0, []int{1, 5, 6}},
		{seven, 2, 3, 0, []int{1, 3, 5}},
		{seven, 3, 3, 0, []int{2, 4, 6}},
		{great, 0, 2, 1, []int{mostID + 1, math.MaxInt}},
		{great, 1, 2, 1, []int{5, mostID}},
		{great, 2, 2, 1, []int{0, mostID}},
		{great, 4, 4, 1, []int{0, 5, mostID + 1, math.MaxInt}},
		{most, 0, 5, 9, []int{106, 114, 117, 123, 125}},
		{most, 5, 5, 9, []int{107, 108, 116, 126, 127}},
		{most, 6, 5, 9, []int{101, 116, 118, 119, 123}},
		{most, mostClient - 1, 5, 9, []int{108, 115, 119, 124, 125}},
		{most, mostClient, 5, 9, []int{103, 106, 107, 112, 128}},
		{most, mostClient, 1, 0, []int{111}},
		{most, 31, 1, 3, []int{124}},
		{most, 32, 1, 3, []int{107}},
		{most, 255, 16, math.MaxUint64, []int{101, 102, 103, 104, 107, 111, 112, 114, 117, 120, 121, 122, 124, 125, 127, 130}},
		{most, 7, 17, 3, []int{101, 102, 103, 104, 107, 110, 111, 112, 115, 116, 118, 119, 123, 126, 128, 130, 131}},
		{most, 3, 31, 9, slices.Concat(row(100, 19), row(120, 12))},
	} {
		if l, e := subset.Of(c.ids, c.client, c.size, c.seed); !slices.Equal(l, c.want) || e != api.OK {
			t.Errorf("P13.1: Of(%d, %d, %d, %x): %d %d, want %d", c.ids, c.client, c.size, c.seed, l, e, c.want)
		}
	}
}

// TestOfAll: no more backends than a subset has are all used, whoever asks.
func TestOfAll(t *testing.T) {
	for n := range mostBackends + 1 {
		for size := max(n, 1); size <= mostBackends; size++ {
			for _, client := range []int{0, 1, 31, 32, mostClient - 1, mostClient} {
				ids := row(3*n, n)
				if l, e := subset.Of(ids, client, size, uint64(n*size)); !slices.Equal(l, ids) || e != api.OK {
					t.Errorf("P13.1: Of(%d, %d, %d, ..): %d %d, want all", ids, client, size, l, e)
				}
			}
		}
	}
	for _, none := range [][]int{nil, {}} {
		if l, e := subset.Of(none, 5, 1, 7); len(l) != 0 || e != api.OK {
			t.Errorf("P13.1: Of none: %d %d", l, e)
		}
	}
}

func TestOfAny(t *testing.T) {
	r := rand.New(rand.NewSource(13))
	for range 3000 {
		ids, client, size, seed := anyIDs(r), r.Intn(1+r.Intn(2000)), 1+r.Intn(1+r.Intn(mostBackends)), r.Uint64()
		want, wrong := slowOf(ids, client, size, seed)
		l, e := subset.Of(ids, client, size, seed)
		if !slices.Equal(l, want) || e != wrong || e != api.OK {
			t.Fatalf("P13.1: Of(%d, %d, %d, %x): %d %d, want %d %d", ids, client, size, seed, l, e, want, wrong)
		}
		if len(l) != min(len(ids), size) {
			t.Fatalf("P13.1: Of(%d, %d, %d, %x): %d IDs", ids, client, size, seed, len(l))
		}
	}
}

// wrongIDs are lists that may not be, with what is wrong with them.
func wrongIDs() map[api.Errno][][]int {
	return map[api.Errno][][]int{
		api.ErrCount: {row(0, mostBackends+1), row(0, 1000), make([]int, mostBackends+1), row(-5, mostBackends+1), make([]int, 1<<16)},
		api.ErrState: {
			{-1}, {math.MinInt}, {math.MinInt32}, {-1, 0, 1}, {-2, -1}, {1, -1}, {1, 2, -1}, {1, -5, 3},
			{0, 0}, {5, 5}, {5, 4}, {1, 0}, {1, 2, 2}, {1, 2, 3, 1}, {1, 3, 2, 4}, {2, 1, 3}, {math.MaxInt, math.MaxInt}, {math.MaxInt, 0},
			make([]int, mostBackends), row(-1, mostBackends), append(row(0, mostBackends-1), mostBackends-2), append(row(1, mostBackends-1), -1),
		},
	}
}

// TestOfErrors: too many go ahead of what is wrong with the IDs, and that of Round's errors.
func TestOfErrors(t *testing.T) {
	wrong := func(ids []int, client, size int, want api.Errno) {
		t.Helper()
		if l, e := subset.Of(ids, client, size, 9); len(l) != 0 || e != want {
			t.Errorf("P13.1: Of(%d, %d, %d, 9): %d %d, want none and %d", ids, client, size, l, e, want)
		}
	}
	for want, lists := range wrongIDs() {
		for _, ids := range lists {
			wrong(ids, 0, 2, want)
			wrong(ids, mostClient, mostBackends, want)
			for _, x := range beyond {
				wrong(ids, x, 2, want)
				wrong(ids, 0, x, want)
				wrong(ids, x, x, want)
			}
		}
	}
	for _, ids := range [][]int{nil, {}, {0}, {1, 2, 3}, row(0, mostBackends)} {
		for _, x := range beyond {
			wrong(ids, x, 2, api.ErrRange)
			wrong(ids, x, mostBackends, api.ErrRange)
			wrong(ids, 0, x, api.ErrRange)
			wrong(ids, x, x, api.ErrRange)
		}
		wrong(ids, 0, 0, api.ErrRange)
		wrong(ids, 0, mostBackends+1, api.ErrRange)
		wrong(ids, mostClient, mostBackends+1, api.ErrRange)
	}
}

// TestCounts: what a separate program told by the chapter's words.
func TestCounts(t *testing.T) {
	seven, most := []int{0, 1, 7, 8, 90, 1000, math.MaxInt}, row(100, mostBackends)
	eights := slices.Repeat([]int{8}, mostBackends)
	for _, c := range []struct {
		ids     []int
		clients int
		size    int
		seed    uint64
		want    []int
	}{
		{seven, 0, 3, 0, []int{0, 0, 0, 0, 0, 0, 0}},
		{seven, 1, 3, 0, []int{1, 0, 1, 1, 0, 0, 0}},
		{seven, 2, 3, 0, []int{1, 1, 1, 1, 0, 1, 1}},
		{seven, 3, 3, 0, []int{1, 2, 1, 2, 0, 2, 1}},
		{seven, 4, 3, 0, []int{1, 2, 2, 2, 1, 2, 2}},
		{seven, 5, 3, 0, []int{2, 2, 2, 3, 2, 2, 2}},
		{seven, 255, 3, 0, []int{100, 106, 113, 111, 114, 110, 111}},
		{seven, mostCounted, 3, 0, []int{101, 106, 114, 111, 115, 110, 111}},
		{seven, mostCounted, 6, 5, []int{213, 216, 229, 216, 221, 219, 222}},
		{seven, mostCounted, 1, 5, []int{37, 37, 36, 37, 37, 36, 36}},
		{seven, 100, 2, 77, []int{24, 28, 32, 29, 30, 28, 29}},
		{seven, mostCounted, 7, 1, []int{256, 256, 256, 256, 256, 256, 256}},
		{seven, 9, mostBackends, 1, []int{9, 9, 9, 9, 9, 9, 9}},
		{seven, 0, mostBackends, 1, []int{0, 0, 0, 0, 0, 0, 0}},
		{nil, 0, 1, 1, nil},
		{nil, mostCounted, 1, 1, nil},
		{[]int{}, 5, mostBackends, 1, nil},
		{[]int{4}, 5, 1, 1, []int{5}},
		{most, mostCounted, 5, 9, []int{41, 41, 39, 40, 40, 42, 42, 42, 38, 40, 40, 39, 35, 40, 38, 41, 39, 42, 40, 42, 38, 43, 42, 41, 40, 40, 41, 40, 41, 39, 37, 37}},
		{most, mostCounted, 31, math.MaxUint64, []int{244, 246, 245, 251, 244, 248, 249, 250, 243, 247, 249, 256, 247, 248, 247, 248, 246, 248, 251, 246, 251, 247, 249, 248, 248, 248, 247, 249, 251, 251, 246, 248}},
		{most, mostCounted, 1, 1, eights},
	} {
		if l, e := subset.Counts(c.ids, c.clients, c.size, c.seed); !slices.Equal(l, c.want) || e != api.OK {
			t.Errorf("P13.2: Counts(%d, %d, %d, %x): %d %d, want %d", c.ids, c.clients, c.size, c.seed, l, e, c.want)
		}
	}
}

func TestCountsOfAny(t *testing.T) {
	r := rand.New(rand.NewSource(14))
	for range 300 {
		ids, clients, size, seed := anyIDs(r), r.Intn(1+r.Intn(mostCounted+1)), 1+r.Intn(1+r.Intn(mostBackends)), r.Uint64()
		want, wrong := slowCounts(ids, clients, size, seed)
		l, e := subset.Counts(ids, clients, size, seed)
		if !slices.Equal(l, want) || e != wrong || e != api.OK {
			t.Fatalf("P13.2: Counts(%d, %d, %d, %x): %d %d, want %d %d", ids, clients, size, seed, l, e, want, wrong)
		}
		sum := 0
		for _, n := range l {
			sum += n
		}
		if sum != clients*min(len(ids), size) {
			t.Fatalf("P13.2: Counts(%d, %d, %d, %x): %d in all", ids, clients, size, seed, sum)
		}
	}
}

// TestCountsErrors: Of's errors of client 0 go ahead of what is wrong with clients, even where no client is counted.
func TestCountsErrors(t *testing.T) {
	wrong := func(ids []int, clients, size int, want api.Errno) {
		t.Helper()
		if l, e := subset.Counts(ids, clients, size, 9); len(l) != 0 || e != want {
			t.Errorf("P13.2: Counts(%d, %d, %d, 9): %d %d, want none and %d", ids, clients, size, l, e, want)
		}
	}
	off := append([]int{mostCounted + 1, mostClient}, beyond...)
	for want, lists := range wrongIDs() {
		for _, ids := range lists {
			wrong(ids, 0, 2, want)
			wrong(ids, mostCounted, mostBackends, want)
			for _, x := range off {
				wrong(ids, x, 2, want)
				wrong(ids, 0, x, want)
				wrong(ids, x, x, want)
			}
		}
	}
	for _, ids := range [][]int{nil, {}, {0}, {1, 2, 3}, row(0, mostBackends)} {
		for _, x := range off {
			wrong(ids, x, 2, api.ErrRange)
			wrong(ids, x, mostBackends, api.ErrRange)
			wrong(ids, x, x, api.ErrRange)
			wrong(ids, 0, x, api.ErrRange)
			wrong(ids, mostCounted, x, api.ErrRange)
		}
		wrong(ids, 0, 0, api.ErrRange)
		wrong(ids, 1, 0, api.ErrRange)
		wrong(ids, 0, mostBackends+1, api.ErrRange)
		wrong(ids, 1, mostBackends+1, api.ErrRange)
	}
}

func TestChange(t *testing.T) {
	for _, c := range []struct{ old, ids, came, went []int }{
		{nil, nil, nil, nil},
		{[]int{}, []int{}, nil, nil},
		{nil, []int{1}, []int{1}, nil},
		{[]int{1}, nil, nil, []int{1}},
		{[]int{1}, []int{1}, nil, nil},
		{[]int{1, 2}, []int{2, 3}, []int{3}, []int{1}},
		{[]int{2, 3}, []int{1, 2}, []int{1}, []int{3}},
		{[]int{1, 2, 3}, []int{4, 5, 6}, []int{4, 5, 6}, []int{1, 2, 3}},
		{[]int{1, 2, 3}, []int{1, 2, 3}, nil, nil},
		{[]int{3, 1, 2}, []int{2, 3, 1}, nil, nil},
		{[]int{3, 2, 1}, []int{6, 5, 4}, []int{4, 5, 6}, []int{1, 2, 3}},
		{[]int{9, 9, 5, 5, 1}, []int{7, 3, 7, 3, 5}, []int{3, 7}, []int{1, 9}},
		{[]int{5, 5}, []int{5}, nil, nil},
		{[]int{5}, []int{5, 5, 5}, nil, nil},
		{[]int{5, 5}, []int{6, 6}, []int{6}, []int{5}},
		{[]int{5, 1, 9, 3}, []int{9, 2, 1}, []int{2}, []int{3, 5}},
		{[]int{-1, -3}, []int{-2, -3, 0}, []int{-2, 0}, []int{-1}},
		{[]int{0}, []int{-1, 1}, []int{-1, 1}, []int{0}},
		{[]int{math.MaxInt, 0}, []int{0, math.MinInt}, []int{math.MinInt}, []int{math.MaxInt}},
		{[]int{math.MinInt, math.MaxInt}, []int{math.MaxInt, math.MinInt, 0}, []int{0}, nil},
		{[]int{1 << 32, 1<<32 + 1}, []int{0, 1}, []int{0, 1}, []int{1 << 32, 1<<32 + 1}},
		{row(0, 100), row(50, 100), row(100, 50), row(0, 50)},
	} {
		came, went := subset.Change(c.old, c.ids...)
		if !slices.Equal(came, c.came) || !slices.Equal(went, c.went) {
			t.Errorf("P13.2: Change(%d, %d..): %d %d, want %d %d", c.old, c.ids, came, went, c.came, c.went)
		}
	}
}

func TestChangeOfAny(t *testing.T) {
	r := rand.New(rand.NewSource(15))
	for range 5000 {
		old, ids := anyList(r), anyList(r)
		came, went := subset.Change(old, ids...)
		if !slices.Equal(came, slowNot(ids, old)) || !slices.Equal(went, slowNot(old, ids)) {
			t.Fatalf("P13.2: Change(%d, %d..): %d %d, want %d %d", old, ids, came, went, slowNot(ids, old), slowNot(old, ids))
		}
	}
}

// TestChangeOfMany: lists are not held to what backends may be, and long ones end soon.
func TestChangeOfMany(t *testing.T) {
	const many = 300000
	r := rand.New(rand.NewSource(16))
	old, ids := row(0, many), row(many/3, many)
	r.Shuffle(many, func(i, j int) { old[i], old[j] = old[j], old[i] })
	r.Shuffle(many, func(i, j int) { ids[i], ids[j] = ids[j], ids[i] })
	came, went := subset.Change(old, ids...)
	if !slices.Equal(came, row(many, many/3)) || !slices.Equal(went, row(0, many/3)) {
		t.Errorf("P13.2: Change of %d IDs: %d came, %d went, want %d each", many, len(came), len(went), many/3)
	}
}

// TestOneRound: subsets of one round share nothing, and each is a subset of the backends.
func TestOneRound(t *testing.T) {
	for n := 2; n <= mostBackends; n++ {
		for size := 1; size < n; size++ {
			for _, round := range []int{0, 1, 7} {
				apart(t, row(n, n), size, round, uint64(n*100+round))
			}
		}
	}
}

// apart holds P13.3 for one round.
func apart(t *testing.T, ids []int, size, round int, seed uint64) {
	t.Helper()
	each := len(ids) / size
	users := map[int]int{}
	for place := range each {
		client := round*each + place
		if of, at, e := subset.Round(len(ids), client, size); of != round || at != place || e != api.OK {
			t.Fatalf("P13.1: Round(%d, %d, %d): %d %d %d, want %d %d", len(ids), client, size, of, at, e, round, place)
		}
		l, e := subset.Of(ids, client, size, seed)
		if len(l) != size || e != api.OK || !slices.IsSorted(l) {
			t.Fatalf("P13.1: Of(%d, %d, %d, %x): %d %d", ids, client, size, seed, l, e)
		}
		for _, id := range l {
			users[id]++
			if users[id] > 1 || !slices.Contains(ids, id) {
				t.Fatalf("P13.3: Of(%d, %d, %d, %x) has %d, which another of its round has, or nobody may", ids, client, size, seed, id)
			}
		}
	}
	if len(users) != each*size {
		t.Fatalf("P13.3: round %d of %d, size %d, uses %d backends", round, ids, size, len(users))
	}
}

// TestWholeRounds: no backend has more than one client a round, and where subsets leave none over each has just one.
func TestWholeRounds(t *testing.T) {
	for n := 2; n <= mostBackends; n++ {
		for size := 1; size < n; size++ {
			each := n / size
			for _, rounds := range []int{1, 2, 5, mostCounted / each} {
				if rounds*each > mostCounted {
					continue
				}
				l, e := subset.Counts(row(1, n), rounds*each, size, uint64(n+size))
				if len(l) != n || e != api.OK {
					t.Fatalf("P13.2: Counts of %d backends: %d %d", n, l, e)
				}
				if slices.Max(l) > rounds || n%size == 0 && slices.Min(l) != rounds {
					t.Errorf("P13.3: %d rounds of %d backends, size %d: %d", rounds, n, size, l)
				}
			}
		}
	}
}

// TestRoundsDiffer: rounds and seeds have orders of their own, so that nobody is left out for good.
func TestRoundsDiffer(t *testing.T) {
	ids := row(0, 9)
	var all []int
	for client := range 40 {
		l, _ := subset.Of(ids, client, 5, 3)
		all = append(all, l...)
	}
	slices.Sort(all)
	if !slices.Equal(slices.Compact(all), ids) {
		t.Errorf("P13.1: over 40 rounds only %d are used", slices.Compact(all))
	}
	same := 0
	for seed := range uint64(40) {
		l, _ := subset.Of(ids, 0, 5, seed)
		other, _ := subset.Of(ids, 0, 5, seed+1000)
		if slices.Equal(l, other) {
			same++
		}
	}
	if same > 10 {
		t.Errorf("P13.1: %d of 40 seeds tell the same", same)
	}
}

// TestNotChanged: what is handed in stays, with the room behind it.
func TestNotChanged(t *testing.T) {
	ids := append(row(3, 9), -5, 2, 2)
	old, now := []int{9, 3, 3, 7, 1, 8}, []int{4, 9, 4, 1, 0, 6}
	keptIDs, keptOld, keptNow := slices.Clone(ids), slices.Clone(old), slices.Clone(now)
	for _, n := range []int{0, 3, 9, 12} {
		for _, size := range []int{0, 1, 4, 9, mostBackends} {
			subset.Of(ids[:n], 2, size, 5)
			subset.Counts(ids[:n], 7, size, 5)
		}
	}
	for _, n := range []int{0, 3, 5, 6} {
		subset.Change(old[:n], now[:n]...)
		subset.Change(now[:n], old[:n]...)
	}
	if !slices.Equal(ids, keptIDs) || !slices.Equal(old, keptOld) || !slices.Equal(now, keptNow) {
		t.Errorf("P13.4: what is handed in is changed: %d %d %d", ids, old, now)
	}
}

// spoil writes over a list, to the end of its room.
func spoil(l []int) {
	l = l[:cap(l)]
	for i := range l {
		l[i] = -77
	}
}

// TestNewMemory: an answer that is written over changes no argument and no other answer.
func TestNewMemory(t *testing.T) {
	for _, size := range []int{1, 4, 9, 10, mostBackends} {
		ids := row(3, 9)
		l, _ := subset.Of(ids, 1, size, 5)
		counts, _ := subset.Counts(ids, 20, size, 5)
		kept, keptCounts := slices.Clone(l), slices.Clone(counts)
		for range 2 {
			again, _ := subset.Of(ids, 1, size, 5)
			more, _ := subset.Counts(ids, 20, size, 5)
			if !slices.Equal(again, kept) || !slices.Equal(more, keptCounts) {
				t.Errorf("P13.4: an answer shares memory with what is kept: %d %d, want %d %d", again, more, kept, keptCounts)
			}
			spoil(again)
			spoil(more)
		}
		if !slices.Equal(ids, row(3, 9)) || !slices.Equal(l, kept) || !slices.Equal(counts, keptCounts) {
			t.Errorf("P13.4: an answer shares memory: %d %d %d", ids, l, counts)
		}
	}
}

// TestChangeMemory: the two lists of one answer share nothing with each other, nor with what is handed in, be it one list twice.
func TestChangeMemory(t *testing.T) {
	for _, c := range []struct{ old, ids []int }{
		{[]int{1, 2, 3}, []int{4, 5, 6}},
		{[]int{1, 2, 3}, nil},
		{nil, []int{1, 2, 3}},
		{[]int{1, 2, 3, 4}, []int{3, 4, 5, 6}},
		{[]int{4, 3, 2, 2}, []int{9, 9, 3, 1}},
	} {
		old, ids := slices.Clone(c.old), slices.Clone(c.ids)
		came, went := subset.Change(old, ids...)
		keptCame, keptWent := slices.Clone(came), slices.Clone(went)
		spoil(came)
		if !slices.Equal(went, keptWent) || !slices.Equal(old, c.old) || !slices.Equal(ids, c.ids) {
			t.Errorf("P13.4: what came shares memory: %d %d %d", went, old, ids)
		}
		came, went = subset.Change(old, ids...)
		spoil(went)
		if !slices.Equal(came, keptCame) || !slices.Equal(old, c.old) || !slices.Equal(ids, c.ids) {
			t.Errorf("P13.4: what went shares memory: %d %d %d", came, old, ids)
		}
	}
	both := []int{5, 1, 5, 3, 2}
	came, went := subset.Change(both[:3], both[2:]...)
	if !slices.Equal(came, []int{2, 3}) || !slices.Equal(went, []int{1}) || !slices.Equal(both, []int{5, 1, 5, 3, 2}) {
		t.Errorf("P13.4: Change of two parts of one list: %d %d, and the list %d", came, went, both)
	}
}

// TestNotKept: a list that is changed behind a call changes no answer, and calls know nothing of each other.
func TestNotKept(t *testing.T) {
	for _, size := range []int{2, 6, mostBackends} {
		ids, old, now := row(3, 6), []int{8, 2, 5}, []int{5, 1, 9}
		l, _ := subset.Of(ids, 4, size, 1)
		counts, _ := subset.Counts(ids, 50, size, 1)
		came, went := subset.Change(old, now...)
		kept := slices.Concat(l, counts, came, went)
		spoil(ids)
		spoil(old)
		spoil(now)
		if !slices.Equal(slices.Concat(l, counts, came, went), kept) {
			t.Errorf("P13.4: what is handed in is kept: %d %d %d %d", l, counts, came, went)
		}
		subset.Of(row(0, mostBackends), 9, 3, 8)
		subset.Of(row(0, mostBackends+1), 9, 3, 8)
		subset.Counts(row(0, 20), 256, 3, 8)
		l, _ = subset.Of(row(3, 6), 4, size, 1)
		counts, _ = subset.Counts(row(3, 6), 50, size, 1)
		came, went = subset.Change([]int{8, 2, 5}, 5, 1, 9)
		if !slices.Equal(slices.Concat(l, counts, came, went), kept) {
			t.Errorf("P13.4: an answer hangs on the calls ahead: %d %d %d %d", l, counts, came, went)
		}
	}
}

// TestAtOnce: goroutines that call at the same time are told what one is told.
func TestAtOnce(t *testing.T) {
	ids, now := row(2, 12), []int{20, 3, 14, 3}
	ask := func() []int {
		l, e := subset.Of(ids, 7, 3, 4)
		counts, f := subset.Counts(ids, 30, 3, 4)
		round, place, _ := subset.Round(12, 7, 3)
		came, went := subset.Change(ids, now...)
		return append(slices.Concat(l, counts, came, went), round, place, int(e), int(f))
	}
	want := ask()
	got := make([][]int, 16)
	var all sync.WaitGroup
	for i := range got {
		all.Go(func() {
			for range 50 {
				got[i] = ask()
			}
		})
	}
	all.Wait()
	for i, l := range got {
		if !slices.Equal(l, want) {
			t.Errorf("P13.4: goroutine %d is told %d, want %d", i, l, want)
		}
	}
}

// FuzzSubset holds P13.1 to P13.3 for lists and numbers of any kind, the lists told by octets.
func FuzzSubset(f *testing.F) {
	f.Add([]byte{0, 1, 1, 1, 2, 3}, 5, 2, uint64(0), 9)
	f.Add([]byte{}, 0, 1, uint64(1), 0)
	f.Add([]byte{255, 1, 4}, mostClient, mostBackends, uint64(math.MaxUint64), mostCounted)
	f.Add([]byte{1, 253, 1, 0}, -1, 0, uint64(1)<<63, mostCounted+1)
	f.Fuzz(func(t *testing.T, b []byte, client, size int, seed uint64, clients int) {
		ids := told(b)
		want, wrong := slowOf(ids, client, size, seed)
		l, e := subset.Of(ids, client, size, seed)
		if !slices.Equal(l, want) || e != wrong {
			t.Fatalf("P13.1: Of(%d, %d, %d, %x): %d %d, want %d %d", ids, client, size, seed, l, e, want, wrong)
		}
		round, place, wrong := slowRound(len(b), client, size)
		if r, p, e := subset.Round(len(b), client, size); r != round || p != place || e != wrong {
			t.Fatalf("P13.1: Round(%d, %d, %d): %d %d %d, want %d %d %d", len(b), client, size, r, p, e, round, place, wrong)
		}
		want, wrong = slowCounts(ids, clients, size, seed)
		if counts, e := subset.Counts(ids, clients, size, seed); !slices.Equal(counts, want) || e != wrong {
			t.Fatalf("P13.2: Counts(%d, %d, %d, %x): %d %d, want %d %d", ids, clients, size, seed, counts, e, want, wrong)
		}
		for _, old := range [][]int{l, ids[:len(ids)/2], told(b[len(b)/2:])} {
			came, went := subset.Change(old, ids...)
			if !slices.Equal(came, slowNot(ids, old)) || !slices.Equal(went, slowNot(old, ids)) {
				t.Fatalf("P13.2: Change(%d, %d..): %d %d", old, ids, came, went)
			}
		}
		// The last round may have clients whose numbers are too high to be asked.
		if e == api.OK && len(ids) > size && client <= mostClient-mostBackends {
			apart(t, ids, size, round, seed)
		}
	})
}

// told makes IDs of octets: steps that mostly rise.
func told(b []byte) []int {
	var l []int
	id := -1
	for _, step := range b {
		switch {
		case step > 252:
			id += []int{-1, 1 << 40, mostID}[step-253]
		default:
			id += int(step)
		}
		l = append(l, id)
	}
	return l
}
