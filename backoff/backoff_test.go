package backoff_test

import (
	"math"
	"math/big"
	"math/rand"
	"slices"
	"sync"
	"testing"

	"waybill/api"
	"waybill/backoff"
	"waybill/hash"
)

// The document's numbers, written out.
const (
	mostBase   = 65536
	mostCap    = 1048576
	mostJitter = 1000
	mostTries  = 64
	mostShares = 1048576
)

// far are numbers that nothing here may be.
var far = []int{-1, -2, -mostJitter, -mostBase, -mostCap, math.MinInt32, mostCap + 1, math.MaxInt32, 1 << 32, 1<<32 + 1, 1<<32 + 64, 1 << 62, math.MaxInt, math.MinInt, math.MinInt + 1}

func slowCheck(s api.BackoffSet) api.Errno {
	if s.Base < 1 || s.Base > mostBase {
		return api.ErrRange
	}
	if s.Cap < s.Base || s.Cap > mostCap {
		return api.ErrRange
	}
	if s.Jitter < 0 || s.Jitter > mostJitter {
		return api.ErrRange
	}
	return api.OK
}

func slowTries(s api.BackoffSet, n, least int) api.Errno {
	if e := slowCheck(s); e != api.OK {
		return e
	}
	if n < least || n > mostTries {
		return api.ErrCount
	}
	return api.OK
}

// slowMost doubles to the end, however great that is, and only then looks at Cap.
func slowMost(s api.BackoffSet, n int) (int, api.Errno) {
	if e := slowTries(s, n, 1); e != api.OK {
		return 0, e
	}
	most := new(big.Int).Lsh(big.NewInt(int64(s.Base)), uint(n-1))
	if most.Cmp(big.NewInt(int64(s.Cap))) > 0 {
		return s.Cap, api.OK
	}
	return int(most.Int64()), api.OK
}

// slowDelay goes by the words of the chapter, and by those of layer 10's Share.
func slowDelay(s api.BackoffSet, n int, draw uint64) (int, api.Errno) {
	most, e := slowMost(s, n)
	if e != api.OK {
		return 0, e
	}
	thousandths := new(big.Int).Mul(big.NewInt(int64(s.Jitter)), big.NewInt(int64(most)))
	shares := thousandths.Div(thousandths, big.NewInt(1000)).Int64() + 1
	if shares > mostShares {
		shares = mostShares
	}
	high := new(big.Int).SetUint64(draw >> 32)
	off := high.Mul(high, big.NewInt(shares))
	delay := most - int(off.Rsh(off, 32).Int64())
	if delay < 1 {
		return 1, api.OK
	}
	return delay, api.OK
}

func slowTotal(s api.BackoffSet, l []uint64) (int, api.Errno) {
	if e := slowTries(s, len(l), 0); e != api.OK {
		return 0, e
	}
	sum := 0
	for i, draw := range l {
		delay, _ := slowDelay(s, i+1, draw)
		sum += delay
	}
	return sum, api.OK
}

func slowRow(s api.BackoffSet, n int) ([]int, api.Errno) {
	if e := slowTries(s, n, 0); e != api.OK {
		return nil, e
	}
	var row []int
	for i := 1; i <= n; i++ {
		most, _ := slowMost(s, i)
		row = append(row, most)
	}
	return row, api.OK
}

// agree holds all calls but Total against their slow forms, and a delay against its bounds.
func agree(t *testing.T, s api.BackoffSet, n int, draw uint64) {
	t.Helper()
	if e, wrong := backoff.Check(s), slowCheck(s); e != wrong {
		t.Fatalf("P18.1: Check(%v): %d, want %d", s, e, wrong)
	}
	most, wrong := slowMost(s, n)
	if out, e := backoff.Most(s, n); out != most || e != wrong {
		t.Fatalf("P18.1: Most(%v, %d): %d %d, want %d %d", s, n, out, e, most, wrong)
	}
	want, wrong := slowDelay(s, n, draw)
	delay, e := backoff.Delay(s, n, draw)
	if delay != want || e != wrong {
		t.Fatalf("P18.1: Delay(%v, %d, %x): %d %d, want %d %d", s, n, draw, delay, e, want, wrong)
	}
	if e == api.OK && (delay < 1 || delay > most || s.Jitter == 0 && delay != most) {
		t.Fatalf("P18.3: Delay(%v, %d, %x): %d, where Most is %d", s, n, draw, delay, most)
	}
	row, wrong := slowRow(s, n)
	if out, e := backoff.Row(s, n); !slices.Equal(out, row) || e != wrong {
		t.Fatalf("P18.2: Row(%v, %d): %d %d, want %d %d", s, n, out, e, row, wrong)
	}
}

func agreeOn(t *testing.T, s api.BackoffSet, l ...uint64) {
	t.Helper()
	want, wrong := slowTotal(s, l)
	if out, e := backoff.Total(s, l...); out != want || e != wrong {
		t.Fatalf("P18.2: Total(%v, %x): %d %d, want %d %d", s, l, out, e, want, wrong)
	}
}

// draws are those at the ends of 64 bits, of the highest and of the lowest 32, at parts of all, and some by chance.
func draws() []uint64 {
	l := []uint64{0, 1, math.MaxUint32, 1 << 32, 1<<33 - 1, 1<<62 - 1, 1 << 62, 0x55555555ffffffff, 0x5555555600000000, 1<<63 - 1, 1 << 63, 0xaaaaaaaaffffffff, 0xaaaaaaab00000000,
		0xfffff00000000000, 0xffffefffffffffff, math.MaxUint64 - math.MaxUint32, math.MaxUint64 - 1<<32, math.MaxUint64 - 1, math.MaxUint64}
	r := rand.New(rand.NewSource(18))
	for range 20 {
		l = append(l, r.Uint64())
	}
	return l
}

// ordinary are settings, a retry and a draw that may be.
func ordinary() (api.BackoffSet, int, uint64) {
	return api.BackoffSet{Base: 10, Cap: 1000, Jitter: 300}, 4, 0x9d5cb2f8129337db
}

// sets are settings that may be, those at the ends of what they may be among them.
func sets() []api.BackoffSet {
	var l []api.BackoffSet
	for _, base := range []int{1, 2, 3, 10, 999, 1000, 1001, mostBase - 1, mostBase} {
		for _, most := range []int{base, base + 1, 2*base - 1, 2 * base, 2*base + 1, 5 * base, 1000 * base, mostCap - 1, mostCap} {
			for _, jitter := range []int{0, 1, 2, 333, 500, 501, 999, 1000} {
				l = append(l, api.BackoffSet{Base: base, Cap: min(most, mostCap), Jitter: jitter})
			}
		}
	}
	return l
}

// TestExample: the chapter's.
func TestExample(t *testing.T) {
	s := api.BackoffSet{Base: 2, Cap: 5}
	want := []int{2, 4, 5, 5}
	if l, e := backoff.Row(s, 4); !slices.Equal(l, want) || e != api.OK {
		t.Errorf("P18.2: Row(%v, 4): %d %d, want %d", s, l, e, want)
	}
	for i, most := range want {
		if n, e := backoff.Most(s, i+1); n != most || e != api.OK {
			t.Errorf("P18.1: Most(%v, %d): %d %d, want %d", s, i+1, n, e, most)
		}
		if n, e := backoff.Delay(s, i+1, math.MaxUint64); n != most || e != api.OK {
			t.Errorf("P18.3: Delay(%v, %d) without Jitter: %d %d, want %d", s, i+1, n, e, most)
		}
	}
	if n, e := backoff.Total(s, 0, 1<<63, math.MaxUint64, 7); n != 16 || e != api.OK {
		t.Errorf("P18.2: Total(%v) of four: %d %d, want 16", s, n, e)
	}
}

// TestSetEdges: each setting at the ends of its range, and next to them, to every call.
func TestSetEdges(t *testing.T) {
	var s api.BackoffSet
	for _, c := range []struct {
		name        string
		number      *int
		least, most int
	}{
		{"Base", &s.Base, 1, 1000},
		{"Cap", &s.Cap, 10, mostCap},
		{"Jitter", &s.Jitter, 0, mostJitter},
	} {
		ask := func(number int, want api.Errno) {
			set, n, draw := ordinary()
			s = set
			*c.number = number
			if e := backoff.Check(s); e != want {
				t.Errorf("P18.1: Check with %s %d: %d, want %d", c.name, number, e, want)
			}
			if out, e := backoff.Most(s, n); e != want || (out == 0) == (e == api.OK) {
				t.Errorf("P18.1: Most with %s %d: %d %d, want %d", c.name, number, out, e, want)
			}
			if out, e := backoff.Delay(s, n, draw); e != want || (out == 0) == (e == api.OK) {
				t.Errorf("P18.1: Delay with %s %d: %d %d, want %d", c.name, number, out, e, want)
			}
			if out, e := backoff.Total(s, draw, 0); e != want || (out == 0) == (e == api.OK) {
				t.Errorf("P18.2: Total with %s %d: %d %d, want %d", c.name, number, out, e, want)
			}
			if out, e := backoff.Row(s, n); e != want || (len(out) == 0) == (e == api.OK) {
				t.Errorf("P18.2: Row with %s %d: %d %d, want %d", c.name, number, out, e, want)
			}
			agree(t, s, n, draw)
			agreeOn(t, s, draw, 0)
		}
		for _, number := range []int{c.least, c.least + 1, (c.least + c.most) / 2, c.most - 1, c.most} {
			ask(number, api.OK)
		}
		for _, number := range append([]int{c.least - 1, c.most + 1}, far...) {
			ask(number, api.ErrRange)
		}
	}
}

// TestBaseAndCap: all of both, and those next to what they may be.
func TestBaseAndCap(t *testing.T) {
	edges := []int{-1, 0, 1, 2, 3, 1000, mostBase - 1, mostBase, mostBase + 1, mostBase + 2, mostCap - 1, mostCap, mostCap + 1, mostCap + 2}
	for _, base := range edges {
		for _, most := range edges {
			s := api.BackoffSet{Base: base, Cap: most}
			want := api.ErrRange
			if 1 <= base && base <= 65536 && base <= most && most <= 1048576 {
				want = api.OK
			}
			if e := backoff.Check(s); e != want {
				t.Errorf("P18.1: Check(%v): %d, want %d", s, e, want)
			}
			agree(t, s, 1, 1<<63)
			agree(t, s, mostTries, 1<<63)
			agreeOn(t, s, 5)
		}
	}
}

// TestCountEdges: how many retries there may be, for each call.
func TestCountEdges(t *testing.T) {
	for _, s := range sets() {
		ask := func(n int, want api.Errno) {
			if _, e := backoff.Row(s, n); e != want {
				t.Errorf("P18.2: Row(%v, %d): %d, want %d", s, n, e, want)
			}
			if n == 0 {
				want = api.ErrCount
			}
			if _, e := backoff.Most(s, n); e != want {
				t.Errorf("P18.1: Most(%v, %d): %d, want %d", s, n, e, want)
			}
			if _, e := backoff.Delay(s, n, 1<<63); e != want {
				t.Errorf("P18.1: Delay(%v, %d): %d, want %d", s, n, e, want)
			}
			agree(t, s, n, math.MaxUint64)
		}
		for _, n := range []int{0, 1, 2, 63, 64} {
			ask(n, api.OK)
		}
		for _, n := range append([]int{65, 66, 128, 256, 256 + 1, 1<<16 + 1}, far...) {
			ask(n, api.ErrCount)
		}
	}
}

// TestNoRetries: none wait for nothing.
func TestNoRetries(t *testing.T) {
	s, _, _ := ordinary()
	for _, l := range [][]uint64{nil, {}} {
		if n, e := backoff.Total(s, l...); n != 0 || e != api.OK {
			t.Errorf("P18.2: Total of no draws: %d %d, want 0", n, e)
		}
	}
	if l, e := backoff.Row(s, 0); len(l) != 0 || e != api.OK {
		t.Errorf("P18.2: Row of none: %d %d, want none", l, e)
	}
}

// TestErrorsInOrder: settings go ahead of the number of retries, and beside an error all is zero.
func TestErrorsInOrder(t *testing.T) {
	set, _, _ := ordinary()
	many := make([]uint64, mostTries+1)
	for _, c := range []struct {
		s     api.BackoffSet
		n     int
		wrong api.Errno
	}{
		{api.BackoffSet{}, 3, api.ErrRange},
		{api.BackoffSet{}, -1, api.ErrRange},
		{api.BackoffSet{Base: 2, Cap: 1}, mostTries + 1, api.ErrRange},
		{api.BackoffSet{Base: 1, Cap: 1, Jitter: 1001}, mostTries + 1, api.ErrRange},
		{api.BackoffSet{Base: 1, Cap: 1, Jitter: -1}, -1, api.ErrRange},
		{api.BackoffSet{Base: math.MaxInt, Cap: math.MaxInt, Jitter: math.MaxInt}, math.MaxInt, api.ErrRange},
		{api.BackoffSet{Base: math.MinInt, Cap: math.MinInt, Jitter: math.MinInt}, math.MinInt, api.ErrRange},
		{set, -1, api.ErrCount},
		{set, mostTries + 1, api.ErrCount},
		{set, math.MaxInt, api.ErrCount},
		{set, math.MinInt, api.ErrCount},
	} {
		if n, e := backoff.Most(c.s, c.n); n != 0 || e != c.wrong {
			t.Errorf("P18.1: Most(%v, %d): %d %d, want 0 and %d", c.s, c.n, n, e, c.wrong)
		}
		if n, e := backoff.Delay(c.s, c.n, 1<<63); n != 0 || e != c.wrong {
			t.Errorf("P18.1: Delay(%v, %d): %d %d, want 0 and %d", c.s, c.n, n, e, c.wrong)
		}
		if l, e := backoff.Row(c.s, c.n); len(l) != 0 || e != c.wrong {
			t.Errorf("P18.2: Row(%v, %d): %d %d, want none and %d", c.s, c.n, l, e, c.wrong)
		}
		if n, e := backoff.Total(c.s, many...); n != 0 || e != c.wrong {
			t.Errorf("P18.2: Total(%v, %d draws): %d %d, want 0 and %d", c.s, len(many), n, e, c.wrong)
		}
	}
}

func TestMost(t *testing.T) {
	for _, c := range []struct {
		base, most, n, want int
	}{
		{1, 1, 1, 1}, {1, 1, 2, 1}, {1, 1, 64, 1}, {1, 2, 1, 1}, {1, 2, 2, 2}, {1, 2, 3, 2},
		{3, 100, 1, 3}, {3, 100, 2, 6}, {3, 100, 3, 12}, {3, 100, 4, 24}, {3, 100, 5, 48}, {3, 100, 6, 96}, {3, 100, 7, 100}, {3, 100, 64, 100},
		{3, 96, 6, 96}, {3, 96, 7, 96}, {3, 95, 6, 95}, {3, 97, 6, 96}, {3, 97, 7, 97}, {3, 3, 1, 3}, {3, 4, 2, 4},
		{1, mostCap, 20, 524288}, {1, mostCap, 21, 1048576}, {1, mostCap, 22, 1048576}, {1, mostCap - 1, 21, 1048575},
		// Doubled in 32 or 64 bits, these come round to nothing.
		{1, mostCap, 32, 1048576}, {1, mostCap, 33, 1048576}, {1, mostCap, 63, 1048576}, {1, mostCap, 64, 1048576},
		{mostBase, mostCap, 1, 65536}, {mostBase, mostCap, 5, 1048576}, {mostBase, mostCap, 17, 1048576}, {mostBase, mostCap, 49, 1048576}, {mostBase, mostCap, 64, 1048576},
		{mostBase - 1, mostCap, 5, 1048560}, {mostBase - 1, mostCap, 6, 1048576}, {mostBase, mostBase, 64, 65536},
	} {
		for _, jitter := range []int{0, 1, 1000} {
			s := api.BackoffSet{Base: c.base, Cap: c.most, Jitter: jitter}
			if n, e := backoff.Most(s, c.n); n != c.want || e != api.OK {
				t.Errorf("P18.1: Most(%v, %d): %d %d, want %d", s, c.n, n, e, c.want)
			}
		}
	}
}

// TestMostGoesOn: each is twice the one ahead of it, or Cap, and Row tells the same.
func TestMostGoesOn(t *testing.T) {
	for _, s := range sets() {
		whole, e := backoff.Row(s, mostTries)
		if len(whole) != mostTries || e != api.OK {
			t.Fatalf("P18.2: Row(%v, 64): %d %d", s, whole, e)
		}
		want := s.Base
		for i := range whole {
			if n, e := backoff.Most(s, i+1); n != want || e != api.OK || whole[i] != want {
				t.Fatalf("P18.1, P18.2: Most(%v, %d): %d %d, in Row %d, want %d", s, i+1, n, e, whole[i], want)
			}
			if l, e := backoff.Row(s, i+1); !slices.Equal(l, whole[:i+1]) || e != api.OK {
				t.Fatalf("P18.2: Row(%v, %d): %d %d, want %d", s, i+1, l, e, whole[:i+1])
			}
			want *= 2
			if want > s.Cap {
				want = s.Cap
			}
		}
	}
}

func TestDelay(t *testing.T) {
	for _, c := range []struct {
		s    api.BackoffSet
		n    int
		draw uint64
		want int
	}{
		// A tenth of 100 is 10: from nothing to 10 is taken off, by eleven shares.
		{api.BackoffSet{Base: 100, Cap: 100, Jitter: 100}, 1, 0, 100},
		{api.BackoffSet{Base: 100, Cap: 100, Jitter: 100}, 1, 1 << 63, 95},
		{api.BackoffSet{Base: 100, Cap: 100, Jitter: 100}, 1, math.MaxUint64, 90},
		{api.BackoffSet{Base: 100, Cap: 100, Jitter: 100}, 64, math.MaxUint64, 90},
		// Downward: of 19 a tenth is 1, of 20 it is 2.
		{api.BackoffSet{Base: 19, Cap: 19, Jitter: 100}, 1, math.MaxUint64, 18},
		{api.BackoffSet{Base: 19, Cap: 19, Jitter: 100}, 1, 1 << 63, 18},
		{api.BackoffSet{Base: 19, Cap: 19, Jitter: 100}, 1, 1<<63 - 1, 19},
		{api.BackoffSet{Base: 20, Cap: 20, Jitter: 100}, 1, math.MaxUint64, 18},
		{api.BackoffSet{Base: 9, Cap: 9, Jitter: 100}, 1, math.MaxUint64, 9},
		{api.BackoffSet{Base: 999, Cap: 999, Jitter: 1}, 1, math.MaxUint64, 999},
		{api.BackoffSet{Base: 1000, Cap: 1000, Jitter: 1}, 1, math.MaxUint64, 999},
		{api.BackoffSet{Base: 1001, Cap: 1001, Jitter: 999}, 1, math.MaxUint64, 2},
		{api.BackoffSet{Base: 1000, Cap: 1000, Jitter: 999}, 1, math.MaxUint64, 1},
		// At least 1, though all may be taken off.
		{api.BackoffSet{Base: 4, Cap: 9, Jitter: 1000}, 1, math.MaxUint64, 1},
		{api.BackoffSet{Base: 4, Cap: 9, Jitter: 1000}, 2, math.MaxUint64, 1},
		{api.BackoffSet{Base: 4, Cap: 9, Jitter: 1000}, 2, 1 << 63, 4},
		{api.BackoffSet{Base: 4, Cap: 9, Jitter: 1000}, 3, 1 << 63, 4},
		{api.BackoffSet{Base: 1, Cap: 1, Jitter: 1000}, 1, math.MaxUint64, 1},
		{api.BackoffSet{Base: 1, Cap: 1, Jitter: 1000}, 1, 0, 1},
		// Thousandths are those of Most, not of Base nor of Cap.
		{api.BackoffSet{Base: 10, Cap: 1000, Jitter: 500}, 1, math.MaxUint64, 5},
		{api.BackoffSet{Base: 10, Cap: 1000, Jitter: 500}, 2, math.MaxUint64, 10},
		{api.BackoffSet{Base: 10, Cap: 1000, Jitter: 500}, 7, math.MaxUint64, 320},
		{api.BackoffSet{Base: 10, Cap: 1000, Jitter: 500}, 8, math.MaxUint64, 500},
		// The shares of the greatest one are 2^20, not one more.
		{api.BackoffSet{Base: 1, Cap: mostCap, Jitter: 1000}, 21, 0, 1048576},
		{api.BackoffSet{Base: 1, Cap: mostCap, Jitter: 1000}, 21, 0x00000fffffffffff, 1048576},
		{api.BackoffSet{Base: 1, Cap: mostCap, Jitter: 1000}, 21, 0x0000100000000000, 1048575},
		{api.BackoffSet{Base: 1, Cap: mostCap, Jitter: 1000}, 21, 0xffffefffffffffff, 2},
		{api.BackoffSet{Base: 1, Cap: mostCap, Jitter: 1000}, 21, 0xfffff00000000000, 1},
		{api.BackoffSet{Base: 1, Cap: mostCap, Jitter: 1000}, 64, math.MaxUint64, 1},
		{api.BackoffSet{Base: 1, Cap: mostCap - 1, Jitter: 1000}, 64, math.MaxUint64, 1},
		{api.BackoffSet{Base: 1, Cap: mostCap - 1, Jitter: 1000}, 64, 0xfffff00000000000, 1},
		{api.BackoffSet{Base: 1, Cap: mostCap, Jitter: 999}, 64, math.MaxUint64, 1049},
	} {
		if n, e := backoff.Delay(c.s, c.n, c.draw); n != c.want || e != api.OK {
			t.Errorf("P18.1: Delay(%v, %d, %x): %d %d, want %d", c.s, c.n, c.draw, n, e, c.want)
		}
		agree(t, c.s, c.n, c.draw)
	}
}

// TestDelayByShare: what is taken off is what layer 10 tells of the draw.
func TestDelayByShare(t *testing.T) {
	for _, s := range sets() {
		for _, n := range []int{1, 2, 3, 8, 21, 64} {
			most, _ := backoff.Most(s, n)
			for _, draw := range draws() {
				off, e := hash.Share(draw, min(1+s.Jitter*most/1000, 1<<20))
				if e != api.OK {
					t.Fatalf("P18.1: no share of %v, %d", s, n)
				}
				if delay, e := backoff.Delay(s, n, draw); delay != max(most-off, 1) || e != api.OK {
					t.Fatalf("P18.1: Delay(%v, %d, %x): %d %d, want %d less %d", s, n, draw, delay, e, most, off)
				}
				agree(t, s, n, draw)
			}
		}
	}
}

// TestDelayBounds: a delay is from 1 to Most, both ends of what Jitter lets it be are reached, and a greater draw makes none longer.
func TestDelayBounds(t *testing.T) {
	l := draws()
	slices.Sort(l)
	for _, s := range sets() {
		for n := 1; n <= mostTries; n++ {
			most, _ := backoff.Most(s, n)
			least := max(1, most-s.Jitter*most/1000)
			first, _ := backoff.Delay(s, n, 0)
			last, _ := backoff.Delay(s, n, math.MaxUint64)
			if first != most || last != least {
				t.Fatalf("P18.3: Delay(%v, %d): from %d down to %d, want %d and %d", s, n, first, last, most, least)
			}
			before := most
			for _, draw := range l {
				delay, e := backoff.Delay(s, n, draw)
				if e != api.OK || delay < least || delay > before {
					t.Fatalf("P18.3: Delay(%v, %d, %x): %d %d, want %d to %d", s, n, draw, delay, e, least, before)
				}
				if again, _ := backoff.Delay(s, n, draw^math.MaxUint32); again != delay {
					t.Fatalf("P18.1: Delay(%v, %d, %x) hangs on the lowest 32 bits: %d and %d", s, n, draw, delay, again)
				}
				before = delay
			}
		}
	}
}

// TestWithoutJitter: whatever is drawn, a delay is Most, and Total the sum of Row.
func TestWithoutJitter(t *testing.T) {
	l := draws()
	for _, s := range sets() {
		s.Jitter = 0
		sum := 0
		for n := 1; n <= len(l); n++ {
			most, _ := backoff.Most(s, n)
			for _, draw := range l {
				if delay, e := backoff.Delay(s, n, draw); delay != most || e != api.OK {
					t.Fatalf("P18.3: Delay(%v, %d, %x): %d %d, want %d", s, n, draw, delay, e, most)
				}
			}
			sum += most
			if total, e := backoff.Total(s, l[:n]...); total != sum || e != api.OK {
				t.Fatalf("P18.3: Total(%v) of %d draws: %d %d, want %d", s, n, total, e, sum)
			}
		}
	}
}

// TestEachDelayHappens: of all that Jitter leaves, each is drawn, as often as each other one, but for those that are brought up to 1.
func TestEachDelayHappens(t *testing.T) {
	const step = 1 << 20
	for _, c := range []struct {
		s    api.BackoffSet
		want []int
	}{
		{api.BackoffSet{Base: 8, Cap: 8, Jitter: 375}, []int{0, 0, 0, 0, 0, 1024, 1024, 1024, 1024}},
		{api.BackoffSet{Base: 7, Cap: 7, Jitter: 1000}, []int{0, 1024, 512, 512, 512, 512, 512, 512}},
		{api.BackoffSet{Base: 3, Cap: 3, Jitter: 333}, []int{0, 0, 0, 4096}},
		{api.BackoffSet{Base: 3, Cap: 3, Jitter: 334}, []int{0, 0, 2048, 2048}},
		{api.BackoffSet{Base: 1, Cap: 1, Jitter: 1000}, []int{0, 4096}},
	} {
		got := make([]int, c.s.Cap+1)
		for i := range 4096 {
			delay, e := backoff.Delay(c.s, 1, uint64(i)*step<<32)
			if e != api.OK || delay < 1 || delay > c.s.Cap {
				t.Fatalf("P18.3: Delay(%v, 1, %x): %d %d", c.s, uint64(i)*step<<32, delay, e)
			}
			got[delay]++
		}
		if !slices.Equal(got, c.want) {
			t.Errorf("P18.1: Delay(%v, 1), by 4096 draws: %d, want %d", c.s, got, c.want)
		}
	}
}

func TestTotal(t *testing.T) {
	half, all := uint64(1<<63), uint64(math.MaxUint64)
	for _, c := range []struct {
		s    api.BackoffSet
		l    []uint64
		want int
	}{
		{api.BackoffSet{Base: 10, Cap: 1000, Jitter: 500}, []uint64{0}, 10},
		{api.BackoffSet{Base: 10, Cap: 1000, Jitter: 500}, []uint64{all}, 5},
		{api.BackoffSet{Base: 10, Cap: 1000, Jitter: 500}, []uint64{0, all}, 20},
		{api.BackoffSet{Base: 10, Cap: 1000, Jitter: 500}, []uint64{all, 0}, 25},
		{api.BackoffSet{Base: 10, Cap: 1000, Jitter: 500}, []uint64{half, half, half}, 7 + 15 + 30},
		{api.BackoffSet{Base: 10, Cap: 15, Jitter: 1000}, []uint64{all, all, all, all}, 4},
		{api.BackoffSet{Base: 10, Cap: 15, Jitter: 1000}, []uint64{0, 0, 0, 0}, 55},
		{api.BackoffSet{Base: mostBase, Cap: mostCap, Jitter: 1000}, make([]uint64, mostTries), 65536*15 + 60*1048576},
		{api.BackoffSet{Base: mostBase, Cap: mostCap, Jitter: 1000}, slices.Repeat([]uint64{all}, mostTries), 64},
	} {
		if n, e := backoff.Total(c.s, c.l...); n != c.want || e != api.OK {
			t.Errorf("P18.2: Total(%v, %x): %d %d, want %d", c.s, c.l, n, e, c.want)
		}
		agreeOn(t, c.s, c.l...)
	}
}

// TestTotalIsOfDelays: the draws are taken in their order, each for the retry at its place.
func TestTotalIsOfDelays(t *testing.T) {
	r := rand.New(rand.NewSource(181))
	for _, s := range sets() {
		l := anyDraws(r, mostTries)
		sum := 0
		for i := range l {
			delay, e := backoff.Delay(s, i+1, l[i])
			if e != api.OK {
				t.Fatalf("P18.1: Delay(%v, %d, %x): %d", s, i+1, l[i], e)
			}
			sum += delay
			if total, e := backoff.Total(s, l[:i+1]...); total != sum || e != api.OK {
				t.Fatalf("P18.2: Total(%v, %x): %d %d, want %d", s, l[:i+1], total, e, sum)
			}
		}
	}
}

// TestTotalCounts: as many draws as there may be, one fewer and more.
func TestTotalCounts(t *testing.T) {
	s := api.BackoffSet{Base: 3, Cap: 3, Jitter: 0}
	for _, n := range []int{0, 1, 63, 64} {
		if total, e := backoff.Total(s, make([]uint64, n)...); total != 3*n || e != api.OK {
			t.Errorf("P18.2: Total of %d draws: %d %d, want %d", n, total, e, 3*n)
		}
	}
	for _, n := range []int{65, 66, 128, 256, 257, 1 << 16, 1<<16 + 1, 1 << 20} {
		if total, e := backoff.Total(s, make([]uint64, n)...); total != 0 || e != api.ErrCount {
			t.Errorf("P18.2: Total of %d draws: %d %d, want 0 and %d", n, total, e, api.ErrCount)
		}
		if total, e := backoff.Total(api.BackoffSet{}, make([]uint64, n)...); total != 0 || e != api.ErrRange {
			t.Errorf("P18.2: Total of %d draws, by no settings: %d %d, want 0 and %d", n, total, e, api.ErrRange)
		}
	}
}

// TestAllSmall: every call, of all settings of small numbers.
func TestAllSmall(t *testing.T) {
	l := draws()
	for base := -1; base <= 5; base++ {
		for most := -1; most <= 12; most++ {
			for _, jitter := range []int{-1, 0, 1, 83, 84, 333, 334, 499, 500, 999, 1000, 1001} {
				s := api.BackoffSet{Base: base, Cap: most, Jitter: jitter}
				for n := -1; n <= 7; n++ {
					for _, draw := range l {
						agree(t, s, n, draw)
					}
				}
				agreeOn(t, s)
				agreeOn(t, s, l...)
				agreeOn(t, s, l[3:9]...)
			}
		}
	}
}

// anyNumber is mostly one of a range, near its ends more often than not, and now and then far from it.
func anyNumber(r *rand.Rand, least, most int) int {
	switch r.Intn(60) {
	case 0:
		return least - 1
	case 1:
		return most + 1
	case 2:
		return far[r.Intn(len(far))]
	}
	near := max(min(5, most-least+1), 1)
	switch r.Intn(3) {
	case 0:
		return least + r.Intn(near)
	case 1:
		return most - r.Intn(near)
	}
	return least + r.Intn(max(most-least+1, 1))
}

func anyDraws(r *rand.Rand, n int) []uint64 {
	l := make([]uint64, n)
	for i := range l {
		l[i] = r.Uint64()
		switch r.Intn(10) {
		case 0:
			l[i] = 0
		case 1:
			l[i] = math.MaxUint64
		}
	}
	return l
}

func TestAllOfAny(t *testing.T) {
	r := rand.New(rand.NewSource(182))
	delayed, summed := map[api.Errno]int{}, map[api.Errno]int{}
	for range 100000 {
		s := api.BackoffSet{Base: anyNumber(r, 1, mostBase), Jitter: anyNumber(r, 0, mostJitter)}
		if r.Intn(2) == 0 {
			s.Base = anyNumber(r, 1, 50)
		}
		s.Cap = anyNumber(r, min(max(s.Base, 1), mostCap), mostCap)
		n, draw := anyNumber(r, 1, mostTries), r.Uint64()
		agree(t, s, n, draw)
		_, e := backoff.Delay(s, n, draw)
		delayed[e]++
		l := anyDraws(r, r.Intn(12))
		if r.Intn(4) == 0 {
			l = anyDraws(r, r.Intn(70))
		}
		agreeOn(t, s, l...)
		_, e = backoff.Total(s, l...)
		summed[e]++
	}
	for _, e := range []api.Errno{api.OK, api.ErrRange, api.ErrCount} {
		if delayed[e] < 1000 || summed[e] < 1000 {
			t.Errorf("P18.1, P18.2: what Delay and Total answered was too much of a kind: %v and %v", delayed, summed)
		}
	}
}

// TestNotChanged: what is handed in stays, with the room behind it.
func TestNotChanged(t *testing.T) {
	s, _, _ := ordinary()
	l := draws()
	kept := slices.Clone(l)
	for n := range len(l) + 1 {
		backoff.Total(s, l[:n]...)
		backoff.Total(api.BackoffSet{}, l[:n]...)
	}
	if !slices.Equal(l, kept) {
		t.Errorf("P18.4: what is handed in is changed: %x, want %x", l, kept)
	}
}

// TestNotShared: no row shares memory with another one, nor with what is kept.
func TestNotShared(t *testing.T) {
	s, _, _ := ordinary()
	for _, n := range []int{1, 2, 5, mostTries} {
		want, _ := slowRow(s, n)
		first, _ := backoff.Row(s, n)
		second, _ := backoff.Row(s, n)
		for i := range first {
			first[i] = -7
		}
		first = append(first, -8)
		third, _ := backoff.Row(s, n)
		if !slices.Equal(second, want) || !slices.Equal(third, want) {
			t.Errorf("P18.4: Row(%v, %d): %d and %d behind a change to %d, want %d", s, n, second, third, first, want)
		}
	}
}

// TestNotKept: calls know nothing of each other, nor of draws that are changed behind a call.
func TestNotKept(t *testing.T) {
	s, n, draw := ordinary()
	l := draws()
	want, _ := backoff.Total(s, l...)
	same := slices.Clone(l)
	clear(l)
	other := api.BackoffSet{Base: mostBase, Cap: mostCap, Jitter: mostJitter}
	backoff.Total(s, l...)
	backoff.Total(other, same...)
	backoff.Most(other, mostTries)
	backoff.Row(other, mostTries)
	agree(t, s, n, draw)
	agree(t, other, n, draw)
	agree(t, api.BackoffSet{}, n, draw)
	agree(t, s, n, draw)
	if again, e := backoff.Total(s, same...); again != want || e != api.OK {
		t.Errorf("P18.4: Total hangs on the calls ahead: %d %d, want %d", again, e, want)
	}
}

// TestAtOnce: goroutines that call at the same time are told what one is told.
func TestAtOnce(t *testing.T) {
	s, n, draw := ordinary()
	l := anyDraws(rand.New(rand.NewSource(183)), mostTries)
	type told struct {
		most, delay, total int
		row                [mostTries]int
		wrong              [5]api.Errno
	}
	ask := func() told {
		var x told
		x.wrong[0] = backoff.Check(s)
		x.most, x.wrong[1] = backoff.Most(s, n)
		x.delay, x.wrong[2] = backoff.Delay(s, n, draw)
		x.total, x.wrong[3] = backoff.Total(s, l...)
		row, e := backoff.Row(s, mostTries)
		x.wrong[4] = e
		copy(x.row[:], row)
		return x
	}
	want := ask()
	got := make([]told, 16)
	var all sync.WaitGroup
	for i := range got {
		all.Go(func() {
			for range 50 {
				got[i] = ask()
			}
		})
	}
	all.Wait()
	for i, x := range got {
		if x != want {
			t.Errorf("P18.4: goroutine %d is told %v, want %v", i, x, want)
		}
	}
}

// FuzzBackoff holds P18.1 to P18.3 for settings, numbers of retries and draws of any kind; draws are made of how many there are and of one of them.
func FuzzBackoff(f *testing.F) {
	f.Add(2, 5, 0, 4, uint64(0), uint8(4))
	f.Add(4, 9, 1000, 1, uint64(math.MaxUint64), uint8(1))
	f.Add(1, mostCap, 1000, 21, uint64(math.MaxUint64), uint8(64))
	f.Add(mostBase, mostCap, 1, 64, uint64(1<<63), uint8(65))
	f.Add(0, mostCap+1, -1, 0, uint64(1), uint8(0))
	f.Add(math.MaxInt, math.MaxInt, math.MinInt, math.MinInt, uint64(1<<32), uint8(255))
	f.Fuzz(func(t *testing.T, base, most, jitter, n int, draw uint64, size uint8) {
		s := api.BackoffSet{Base: base, Cap: most, Jitter: jitter}
		agree(t, s, n, draw)
		l := make([]uint64, size)
		for i := range l {
			l[i] = hash.Mix(draw + uint64(i))
		}
		agreeOn(t, s, l...)
	})
}
