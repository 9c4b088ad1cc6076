package resolve_test

import (
	"math"
	"math/rand"
	"slices"
	"sync"
	"testing"

	"waybill/api"
	"waybill/resolve"
)

// The document's numbers, written out.
const (
	mostVersion  = 1073741824
	mostBackends = 32
	mostWeight   = 16
	mostID       = 2147483647
)

var (
	// farVersions are no Versions, farIDs no IDs, farWeights no Weights.
	farVersions = []int{-1, -2, -mostVersion, math.MinInt32, -1 << 32, math.MinInt + 1, math.MinInt, mostVersion + 1, mostVersion + 2, math.MaxInt32, 1 << 31, 1 << 32, 1<<32 + 3, 1 << 62, math.MaxInt - 1, math.MaxInt}
	farIDs      = []int{-1, -2, math.MinInt32, -1 << 32, math.MinInt + 1, math.MinInt, mostID + 1, mostID + 2, 1 << 32, 1<<32 + 3, 1 << 62, math.MaxInt - 1, math.MaxInt}
	farWeights  = []int{0, -1, -16, math.MinInt32, -1 << 32, 1 - 1<<32, math.MinInt, mostWeight + 1, mostWeight + 2, 257, 1<<16 + 1, 1 << 32, 1<<32 + 1, math.MaxInt - 1, math.MaxInt}
)

// slowCheck goes by the chapter's words, and by those of chapter 12, one after the other.
func slowCheck(s api.Snapshot) api.Errno {
	if s.Version < 0 || s.Version > mostVersion {
		return api.ErrRange
	}
	if len(s.Backends) > mostBackends {
		return api.ErrCount
	}
	for _, b := range s.Backends {
		if b.ID < 0 || b.ID > mostID || b.Weight < 1 || b.Weight > mostWeight {
			return api.ErrRange
		}
	}
	for i, b := range s.Backends {
		if i > 0 && b.ID <= s.Backends[i-1].ID {
			return api.ErrTwice
		}
	}
	return api.OK
}

// slowApply asks for each one if it is newer than all ahead of it, which is the same as what counts by then.
func slowApply(old api.Snapshot, l []api.Snapshot) (api.Snapshot, int, api.Errno) {
	all := append([]api.Snapshot{old}, l...)
	for _, s := range all {
		if e := slowCheck(s); e != api.OK {
			return api.Snapshot{}, 0, e
		}
	}
	last, count := 0, 0
	for i := 1; i < len(all); i++ {
		newer := true
		for _, s := range all[:i] {
			newer = newer && s.Version < all[i].Version
		}
		if newer {
			last = i
			count++
		}
	}
	return all[last], count, api.OK
}

// weightIn is the Weight of an ID's backend, or 0 where there is none.
func weightIn(s api.Snapshot, id int) int {
	for _, b := range s.Backends {
		if b.ID == id {
			return b.Weight
		}
	}
	return 0
}

// slowDiff asks for each ID of both, in order, what each of both has.
func slowDiff(a, b api.Snapshot) (came, went, changed []int, e api.Errno) {
	for _, s := range []api.Snapshot{a, b} {
		if e := slowCheck(s); e != api.OK {
			return nil, nil, nil, e
		}
	}
	var ids []int
	for _, s := range []api.Snapshot{a, b} {
		for _, x := range s.Backends {
			ids = append(ids, x.ID)
		}
	}
	slices.Sort(ids)
	for _, id := range slices.Compact(ids) {
		was, is := weightIn(a, id), weightIn(b, id)
		switch {
		case was == 0:
			came = append(came, id)
		case is == 0:
			went = append(went, id)
		case was != is:
			changed = append(changed, id)
		}
	}
	return came, went, changed, api.OK
}

func slowPick(s api.Snapshot, ids []int) ([]api.Backend, api.Errno) {
	if e := slowCheck(s); e != api.OK {
		return nil, e
	}
	for _, id := range ids {
		if weightIn(s, id) == 0 {
			return nil, api.ErrNone
		}
	}
	var l []api.Backend
	for i, id := range ids {
		if slices.ContainsFunc(ids[:i], func(x int) bool { return x >= id }) {
			return nil, api.ErrTwice
		}
		l = append(l, api.Backend{ID: id, Weight: weightIn(s, id)})
	}
	return l, api.OK
}

func same(a, b api.Snapshot) bool {
	return a.Version == b.Version && slices.Equal(a.Backends, b.Backends)
}

func clone(s api.Snapshot) api.Snapshot {
	s.Backends = slices.Clone(s.Backends)
	return s
}

// agree holds the calls that take nothing beside a snapshot.
func agree(t *testing.T, s api.Snapshot) {
	t.Helper()
	wrong := slowCheck(s)
	if e := resolve.Check(s); e != wrong {
		t.Fatalf("P21.1: Check(%v): %d, want %d", s, e, wrong)
	}
	var ids []int
	sum := 0
	if wrong == api.OK {
		for _, b := range s.Backends {
			ids = append(ids, b.ID)
			sum += b.Weight
		}
	}
	if out, e := resolve.IDs(s); !slices.Equal(out, ids) || e != wrong {
		t.Fatalf("P21.1: IDs(%v): %v %d, want %v %d", s, out, e, ids, wrong)
	}
	if n, e := resolve.Weight(s); n != sum || e != wrong {
		t.Fatalf("P21.2: Weight(%v): %d %d, want %d %d", s, n, e, sum, wrong)
	}
}

func agreeOnApply(t *testing.T, old api.Snapshot, l ...api.Snapshot) {
	t.Helper()
	want, count, wrong := slowApply(old, l)
	s, n, e := resolve.Apply(old, l...)
	if !same(s, want) || n != count || e != wrong {
		t.Fatalf("P21.1: Apply(%v, %v): %v %d %d, want %v %d %d", old, l, s, n, e, want, count, wrong)
	}
}

// agreeOnDiff holds what changed, there and back.
func agreeOnDiff(t *testing.T, a, b api.Snapshot) {
	t.Helper()
	for range 2 {
		came, went, changed, wrong := slowDiff(a, b)
		x, y, z, e := resolve.Diff(a, b)
		if !slices.Equal(x, came) || !slices.Equal(y, went) || !slices.Equal(z, changed) || e != wrong {
			t.Fatalf("P21.2: Diff(%v, %v): %v %v %v %d, want %v %v %v %d", a, b, x, y, z, e, came, went, changed, wrong)
		}
		a, b = b, a
	}
}

func agreeOnPick(t *testing.T, s api.Snapshot, ids ...int) {
	t.Helper()
	want, wrong := slowPick(s, ids)
	if l, e := resolve.Pick(s, ids...); !slices.Equal(l, want) || e != wrong {
		t.Fatalf("P21.2: Pick(%v, %v): %v %d, want %v %d", s, ids, l, e, want, wrong)
	}
}

// made is a snapshot of pairs, an ID and a Weight each.
func made(version int, pairs ...int) api.Snapshot {
	s := api.Snapshot{Version: version}
	for i := 0; i < len(pairs); i += 2 {
		s.Backends = append(s.Backends, api.Backend{ID: pairs[i], Weight: pairs[i+1]})
	}
	return s
}

// row is a snapshot of so many backends, from an ID on.
func row(version, size, first int) api.Snapshot {
	s := api.Snapshot{Version: version}
	for i := range size {
		s.Backends = append(s.Backends, api.Backend{ID: first + i, Weight: i%mostWeight + 1})
	}
	return s
}

// rights are snapshots that may be.
func rights() []api.Snapshot {
	return []api.Snapshot{
		{}, {Backends: []api.Backend{}}, {Version: mostVersion}, made(1, 0, 1), made(1, 0, mostWeight), made(2, mostID, 1), made(mostVersion, mostID, mostWeight), made(mostVersion-1, 0, 1, mostID, 16),
		made(3, 1, 1, 2, 1), made(4, 1, 1, 2, 3, 7, 16), made(4, 2, 3, 4, 1), made(5, 1, 16, 2, 16, 3, 16), made(9, 0, 2, 1, 2, 5, 2, 6, 1, 700, 9),
		row(7, mostBackends-1, 0), row(8, mostBackends, 0), row(8, mostBackends, 3), row(8, mostBackends, mostID-mostBackends+1), row(1, mostBackends, 1<<20),
	}
}

// wrongs are snapshots that may not be, and what Check says of them.
func wrongs() map[api.Errno][]api.Snapshot {
	l := map[api.Errno][]api.Snapshot{
		api.ErrCount: {
			row(0, mostBackends+1, 0), row(mostVersion, mostBackends+2, 5), row(3, 2*mostBackends, 0), row(3, 256, 0), row(3, 1<<16, 0),
			{Backends: make([]api.Backend, mostBackends+1)}, {Backends: slices.Repeat([]api.Backend{{ID: -1, Weight: 99}}, 100)}, {Backends: slices.Repeat([]api.Backend{{ID: 5, Weight: 1}}, 33)},
		},
		api.ErrTwice: {
			made(0, 1, 1, 1, 1), made(0, 1, 1, 1, 2), made(1, 2, 1, 1, 1), made(5, 0, 3, 0, 3), made(5, 1, 1, 2, 2, 2, 3), made(5, 1, 1, 2, 2, 1, 3), made(5, 1, 1, 3, 2, 2, 3), made(mostVersion, mostID, 1, mostID, 1), made(5, mostID, 16, 0, 16), made(7, 3, 1, 2, 1, 5, 1, 9, 1),
		},
	}
	for _, n := range farVersions {
		l[api.ErrRange] = append(l[api.ErrRange],
			// These are wrong in other ways, too.
			made(n), made(n, 1, 1), row(n, mostBackends, 0), row(n, mostBackends+1, 0), made(n, 1, 1, 1, 1), made(n, -1, 0))
	}
	for _, n := range farIDs {
		l[api.ErrRange] = append(l[api.ErrRange], made(1, n, 1), made(1, n, 1, 5, 1), made(1, 5, 1, n, 1), made(1, 5, 1, 6, 1, n, 1), made(1, n, 2, n, 2), made(1, 5, 1, 5, 1, n, 2))
	}
	for _, n := range farWeights {
		l[api.ErrRange] = append(l[api.ErrRange], made(1, 1, n), made(1, 1, n, 5, 1), made(1, 1, 1, 5, n), made(1, 1, 1, 5, 1, 6, n), made(1, 1, n, 1, n), made(1, 5, 1, 5, 1, 6, n), made(1, -1, n))
	}
	for place := range mostBackends {
		far, twice := row(6, mostBackends, 100), row(6, mostBackends, 100)
		far.Backends[place].Weight = mostWeight + 1
		l[api.ErrRange] = append(l[api.ErrRange], far)
		if place > 0 {
			twice.Backends[place].ID--
			l[api.ErrTwice] = append(l[api.ErrTwice], twice)
		}
	}
	return l
}

// TestExamples: the chapter's.
func TestExamples(t *testing.T) {
	if s, n, e := resolve.Apply(api.Snapshot{}, made(2, 1, 1), made(1, 3, 1)); !same(s, made(2, 1, 1)) || n != 1 || e != api.OK {
		t.Errorf("P21.1: Apply of 2, then 1: %v %d %d, want 2", s, n, e)
	}
}

func TestRight(t *testing.T) {
	for _, s := range rights() {
		if e := resolve.Check(s); e != api.OK {
			t.Errorf("P21.1: Check(%v): %d, want %d", s, e, api.OK)
		}
		agree(t, s)
		agreeOnApply(t, s)
		for _, x := range rights() {
			agreeOnDiff(t, s, x)
			agreeOnApply(t, s, x)
			for _, y := range rights() {
				agreeOnApply(t, s, x, y)
			}
			ids, e := resolve.IDs(x)
			if e != api.OK {
				t.Errorf("P21.1: IDs(%v): %d, want %d", x, e, api.OK)
			}
			agreeOnPick(t, s, ids...)
		}
		for place := range s.Backends {
			id := s.Backends[place].ID
			agreeOnPick(t, s, id)
			agreeOnPick(t, s, id, id)
			agreeOnPick(t, s, id, id+1)
			agreeOnPick(t, s, id+1, id)
			agreeOnPick(t, s, id-1, id)
			agreeOnPick(t, s, id, id+2, id+4)
		}
	}
}

// TestWrong: each call answers Check's error ahead of all others, and nothing beside it.
func TestWrong(t *testing.T) {
	fine := made(3, 1, 1, 2, 2)
	for want, some := range wrongs() {
		for _, s := range some {
			shown := s
			shown.Backends = shown.Backends[:min(len(s.Backends), 8)]
			if e := resolve.Check(s); e != want {
				t.Errorf("P21.1: Check(%v): %d, want %d", shown, e, want)
			}
			if ids, e := resolve.IDs(s); len(ids) != 0 || e != want {
				t.Errorf("P21.1: IDs(%v): %v %d, want none and %d", shown, ids, e, want)
			}
			if n, e := resolve.Weight(s); n != 0 || e != want {
				t.Errorf("P21.2: Weight(%v): %d %d, want none and %d", shown, n, e, want)
			}
			for _, ids := range [][]int{nil, {1}, {-5}, {5, 1}, {1, 1}} {
				if l, e := resolve.Pick(s, ids...); len(l) != 0 || e != want {
					t.Errorf("P21.2: Pick(%v, %v): %v %d, want none and %d", shown, ids, l, e, want)
				}
			}
			for _, c := range [][]api.Snapshot{{s}, {s, fine}, {fine, s}, {fine, made(4), s}, {fine, made(2), s, fine}, {s, s}, {made(mostVersion), s}} {
				if out, n, e := resolve.Apply(c[0], c[1:]...); !same(out, api.Snapshot{}) || n != 0 || e != want {
					t.Errorf("P21.1: Apply of %d, of which one is %v: %v %d %d, want none and %d", len(c), shown, out, n, e, want)
				}
			}
			for _, c := range [][2]api.Snapshot{{s, fine}, {fine, s}, {s, s}, {{}, s}, {s, {}}} {
				if x, y, z, e := resolve.Diff(c[0], c[1]); len(x)+len(y)+len(z) != 0 || e != want {
					t.Errorf("P21.2: Diff of two, of which one is %v: %v %v %v %d, want none and %d", shown, x, y, z, e, want)
				}
			}
		}
	}
}

// TestFirstWrong: of several that have an error the first counts.
func TestFirstWrong(t *testing.T) {
	fine := made(3, 1, 1, 2, 2)
	for one, some := range wrongs() {
		for other, more := range wrongs() {
			for i, a := range some {
				b := more[i%len(more)]
				for _, c := range [][]api.Snapshot{{a, b}, {fine, a, b}, {fine, a, fine, b}, {fine, fine, a, b, b}} {
					if s, n, e := resolve.Apply(c[0], c[1:]...); !same(s, api.Snapshot{}) || n != 0 || e != one {
						t.Fatalf("P21.1: Apply, of whose snapshots the first wrong one has %d, and another one %d: %v %d %d", one, other, s, n, e)
					}
				}
				if x, y, z, e := resolve.Diff(a, b); len(x)+len(y)+len(z) != 0 || e != one {
					t.Fatalf("P21.2: Diff, whose a has %d, and b has %d: %v %v %v %d", one, other, x, y, z, e)
				}
			}
		}
	}
}

func TestApply(t *testing.T) {
	for _, c := range []struct {
		old  api.Snapshot
		l    []api.Snapshot
		want api.Snapshot
		n    int
	}{
		{api.Snapshot{}, nil, api.Snapshot{}, 0},
		{made(5, 1, 1), nil, made(5, 1, 1), 0},
		{made(5, 1, 1), []api.Snapshot{made(5, 2, 2)}, made(5, 1, 1), 0},
		{made(5, 1, 1), []api.Snapshot{made(4, 2, 2)}, made(5, 1, 1), 0},
		{made(5, 1, 1), []api.Snapshot{made(6, 2, 2)}, made(6, 2, 2), 1},
		{made(5, 1, 1), []api.Snapshot{made(6)}, made(6), 1},
		{api.Snapshot{}, []api.Snapshot{made(0, 2, 2)}, api.Snapshot{}, 0},
		{made(0, 7, 7), []api.Snapshot{made(0, 2, 2)}, made(0, 7, 7), 0},
		{api.Snapshot{}, []api.Snapshot{made(1, 1, 1), made(2, 2, 2), made(3, 3, 3)}, made(3, 3, 3), 3},
		{api.Snapshot{}, []api.Snapshot{made(3, 3, 3), made(2, 2, 2), made(1, 1, 1)}, made(3, 3, 3), 1},
		{api.Snapshot{}, []api.Snapshot{made(2, 1, 1), made(2, 2, 2), made(2, 3, 3)}, made(2, 1, 1), 1},
		{api.Snapshot{}, []api.Snapshot{made(2, 1, 1), made(7, 2, 2), made(3, 3, 3), made(8, 4, 4)}, made(8, 4, 4), 3},
		{made(4, 9, 9), []api.Snapshot{made(2, 1, 1), made(3, 2, 2), made(4, 3, 3)}, made(4, 9, 9), 0},
		{api.Snapshot{}, []api.Snapshot{made(mostVersion), made(mostVersion, 1, 1)}, made(mostVersion), 1},
		{made(mostVersion-1, 1, 1), []api.Snapshot{made(mostVersion, 2, 2)}, made(mostVersion, 2, 2), 1},
		{made(mostVersion, 1, 1), []api.Snapshot{made(0, 2, 2), made(mostVersion-1, 2, 2)}, made(mostVersion, 1, 1), 0},
	} {
		if s, n, e := resolve.Apply(c.old, c.l...); !same(s, c.want) || n != c.n || e != api.OK {
			t.Errorf("P21.1: Apply(%v, %v): %v %d %d, want %v %d", c.old, c.l, s, n, e, c.want, c.n)
		}
	}
	var many []api.Snapshot
	for i := range 5000 {
		many = append(many, made(i/2, i, 1))
	}
	if s, n, e := resolve.Apply(api.Snapshot{}, many...); !same(s, made(2499, 4998, 1)) || n != 2499 || e != api.OK {
		t.Errorf("P21.1: Apply of 5000: %v %d %d", s, n, e)
	}
}

func TestDiff(t *testing.T) {
	for _, c := range []struct {
		a, b                api.Snapshot
		came, went, changed []int
	}{
		{api.Snapshot{}, api.Snapshot{}, nil, nil, nil},
		{made(1, 1, 1), made(2, 1, 1), nil, nil, nil},
		{made(1, 1, 1), made(2, 1, 2), nil, nil, []int{1}},
		{made(1, 0, 1), made(2, 0, 16), nil, nil, []int{0}},
		{made(1), made(2, 0, 1), []int{0}, nil, nil},
		{made(2, 0, 1), made(1), nil, []int{0}, nil},
		{made(1, 1, 1), made(2, 2, 1), []int{2}, []int{1}, nil},
		{made(0, 1, 1, 2, 1), made(0, 2, 3, 4, 1), []int{4}, []int{1}, []int{2}},
		{made(1, 1, 1, 3, 3, 5, 5, 7, 7), made(1, 0, 1, 3, 4, 4, 1, 7, 8, 9, 1), []int{0, 4, 9}, []int{1, 5}, []int{3, 7}},
		{row(1, mostBackends, 0), row(1, mostBackends, 31), []int{32, 33, 34, 35, 36, 37, 38, 39, 40, 41, 42, 43, 44, 45, 46, 47, 48, 49, 50, 51, 52, 53, 54, 55, 56, 57, 58, 59, 60, 61, 62}, []int{0, 1, 2, 3, 4, 5, 6, 7, 8, 9, 10, 11, 12, 13, 14, 15, 16, 17, 18, 19, 20, 21, 22, 23, 24, 25, 26, 27, 28, 29, 30}, []int{31}},
	} {
		x, y, z, e := resolve.Diff(c.a, c.b)
		if !slices.Equal(x, c.came) || !slices.Equal(y, c.went) || !slices.Equal(z, c.changed) || e != api.OK {
			t.Errorf("P21.2: Diff(%v, %v): %v %v %v %d, want %v %v %v", c.a, c.b, x, y, z, e, c.came, c.went, c.changed)
		}
	}
}

func TestPick(t *testing.T) {
	s := made(4, 0, 5, 3, 1, 4, 16, 9, 2, mostID, 7)
	for _, c := range []struct {
		ids  []int
		l    []api.Backend
		want api.Errno
	}{
		{nil, nil, api.OK}, {[]int{}, nil, api.OK},
		{[]int{0}, []api.Backend{{ID: 0, Weight: 5}}, api.OK}, {[]int{mostID}, []api.Backend{{ID: mostID, Weight: 7}}, api.OK},
		{[]int{3, 9}, []api.Backend{{ID: 3, Weight: 1}, {ID: 9, Weight: 2}}, api.OK}, {[]int{0, 3, 4, 9, mostID}, s.Backends, api.OK},
		{[]int{1}, nil, api.ErrNone}, {[]int{-1}, nil, api.ErrNone}, {[]int{mostID + 1}, nil, api.ErrNone}, {[]int{1 << 32}, nil, api.ErrNone}, {[]int{1<<32 + 3}, nil, api.ErrNone}, {[]int{math.MinInt}, nil, api.ErrNone}, {[]int{math.MaxInt}, nil, api.ErrNone},
		{[]int{0, 1}, nil, api.ErrNone}, {[]int{2, 3}, nil, api.ErrNone}, {[]int{3, 4, 10}, nil, api.ErrNone},
		{[]int{3, 3}, nil, api.ErrTwice}, {[]int{4, 3}, nil, api.ErrTwice}, {[]int{0, 4, 3}, nil, api.ErrTwice}, {[]int{0, 3, 4, 4}, nil, api.ErrTwice}, {[]int{3, 0, 9}, nil, api.ErrTwice}, {[]int{mostID, 0}, nil, api.ErrTwice},
		// What is not there goes ahead, wherever it stands.
		{[]int{4, 3, 1}, nil, api.ErrNone}, {[]int{3, 3, 10}, nil, api.ErrNone}, {[]int{10, 3, 3}, nil, api.ErrNone}, {[]int{1, 1}, nil, api.ErrNone}, {[]int{9, 5, 4}, nil, api.ErrNone},
		{slices.Repeat([]int{3}, 5000), nil, api.ErrTwice}, {append(slices.Repeat([]int{3}, 5000), 5), nil, api.ErrNone},
	} {
		if l, e := resolve.Pick(s, c.ids...); !slices.Equal(l, c.l) || e != c.want {
			t.Errorf("P21.2: Pick(%v, %v): %v %d, want %v %d", s, c.ids[:min(len(c.ids), 9)], l, e, c.l, c.want)
		}
		agreeOnPick(t, s, c.ids...)
	}
	for _, ids := range [][]int{{0}, {0, 0}, {-1}} {
		if l, e := resolve.Pick(api.Snapshot{}, ids...); len(l) != 0 || e != api.ErrNone {
			t.Errorf("P21.2: Pick of none: %v %d, want none and %d", l, e, api.ErrNone)
		}
	}
}

func TestWeight(t *testing.T) {
	for _, c := range []struct {
		s   api.Snapshot
		sum int
	}{
		{api.Snapshot{}, 0}, {made(9), 0}, {made(9, 5, 1), 1}, {made(9, 5, 16), 16}, {made(9, 5, 16, 7, 3, 8, 1), 20}, {row(1, 32, 0), 272},
	} {
		if n, e := resolve.Weight(c.s); n != c.sum || e != api.OK {
			t.Errorf("P21.2: Weight(%v): %d %d, want %d", c.s, n, e, c.sum)
		}
	}
	all := row(1, mostBackends, 0)
	for i := range all.Backends {
		all.Backends[i].Weight = mostWeight
	}
	if n, e := resolve.Weight(all); n != mostBackends*mostWeight || e != api.OK {
		t.Errorf("P21.2: Weight of all there may be: %d %d, want 512", n, e)
	}
}

// TestAllSmall: all snapshots of the IDs 0 to 2 and the Weights 1 and 2, against each other.
func TestAllSmall(t *testing.T) {
	var all []api.Snapshot
	for what := range 27 {
		s := api.Snapshot{Version: what % 4}
		for id, rest := 0, what; id < 3; id, rest = id+1, rest/3 {
			if rest%3 > 0 {
				s.Backends = append(s.Backends, api.Backend{ID: id, Weight: rest % 3})
			}
		}
		all = append(all, s)
	}
	for _, a := range all {
		agree(t, a)
		for _, b := range all {
			agreeOnDiff(t, a, b)
			agreeOnApply(t, a, b)
			for _, c := range all {
				agreeOnApply(t, a, b, c)
			}
		}
		for x := -1; x < 4; x++ {
			agreeOnPick(t, a, x)
			for y := -1; y < 4; y++ {
				agreeOnPick(t, a, x, y)
				for z := -1; z < 4; z++ {
					agreeOnPick(t, a, x, y, z)
				}
			}
		}
	}
}

// anySnapshot is one that may be.
func anySnapshot(r *rand.Rand, most int) api.Snapshot {
	s := api.Snapshot{Version: r.Intn(most)}
	size := r.Intn(mostBackends + 1)
	ids := r.Perm(size + r.Intn(20))[:size]
	slices.Sort(ids)
	for _, id := range ids {
		s.Backends = append(s.Backends, api.Backend{ID: id, Weight: 1 + r.Intn(mostWeight)})
	}
	return s
}

// spoilt is s with one thing wrong now and then.
func spoilt(r *rand.Rand, s api.Snapshot) api.Snapshot {
	s = clone(s)
	if len(s.Backends) == 0 {
		return s
	}
	i, j := r.Intn(len(s.Backends)), r.Intn(len(s.Backends))
	switch r.Intn(25) {
	case 0:
		s.Version = farVersions[r.Intn(len(farVersions))]
	case 1:
		s.Backends[i].ID = farIDs[r.Intn(len(farIDs))]
	case 2:
		s.Backends[i].Weight = farWeights[r.Intn(len(farWeights))]
	case 3:
		s.Backends[i].ID = s.Backends[j].ID
	case 4:
		s.Backends[i], s.Backends[j] = s.Backends[j], s.Backends[i]
	case 5:
		s.Backends = append(s.Backends, row(0, mostBackends, 100).Backends...)
	}
	return s
}

// idsOf are IDs of which nearly all are there, most of the times rising.
func idsOf(r *rand.Rand, s api.Snapshot) []int {
	var ids []int
	for _, b := range s.Backends {
		if r.Intn(3) > 0 {
			ids = append(ids, b.ID)
		}
	}
	switch n := len(ids); {
	case n == 0:
	case r.Intn(6) == 0:
		ids[r.Intn(n)] = r.Intn(60)
	case r.Intn(6) == 0:
		ids = append(ids, ids[r.Intn(n)])
	case r.Intn(6) == 0:
		r.Shuffle(n, func(i, j int) { ids[i], ids[j] = ids[j], ids[i] })
	}
	return ids
}

func TestAllOfAny(t *testing.T) {
	r := rand.New(rand.NewSource(210))
	checked, applied, picked := map[api.Errno]int{}, map[api.Errno]int{}, map[api.Errno]int{}
	for range 8000 {
		a, b := spoilt(r, anySnapshot(r, 20)), spoilt(r, anySnapshot(r, 20))
		agree(t, a)
		checked[resolve.Check(a)]++
		agreeOnDiff(t, a, b)
		var l []api.Snapshot
		for range r.Intn(6) {
			l = append(l, spoilt(r, anySnapshot(r, 30)))
		}
		agreeOnApply(t, a, l...)
		_, _, e := resolve.Apply(a, l...)
		applied[e]++
		ids := idsOf(r, a)
		agreeOnPick(t, a, ids...)
		_, e = resolve.Pick(a, ids...)
		picked[e]++
	}
	for _, e := range []api.Errno{api.OK, api.ErrRange, api.ErrTwice, api.ErrCount} {
		if checked[e] < 50 || applied[e] < 50 || picked[e] < 50 {
			t.Errorf("P21.1: what was answered was too much of a kind: %v %v %v", checked, applied, picked)
		}
	}
	if picked[api.ErrNone] < 50 {
		t.Errorf("P21.2: what Pick answered was too much of a kind: %v", picked)
	}
}

// TestAnyOrder: P21.3, for all orders of few snapshots, and some of many.
func TestAnyOrder(t *testing.T) {
	r := rand.New(rand.NewSource(211))
	for range 300 {
		size := r.Intn(6)
		var l []api.Snapshot
		for _, version := range r.Perm(12)[:size+1] {
			s := anySnapshot(r, 1)
			s.Version = version
			l = append(l, s)
		}
		old, l := l[0], l[1:]
		newest := old
		for _, s := range l {
			if s.Version > newest.Version {
				newest = s
			}
		}
		orders(l, 0, func(l []api.Snapshot) {
			if s, _, e := resolve.Apply(old, l...); !same(s, newest) || e != api.OK {
				t.Fatalf("P21.3: Apply(%v, %v): %v %d, want %v", old, l, s, e, newest)
			}
		})
	}
	var many []api.Snapshot
	for version := range 100 {
		s := anySnapshot(r, 1)
		s.Version = version * 7
		many = append(many, s)
	}
	newest := many[99]
	for range 200 {
		r.Shuffle(len(many), func(i, j int) { many[i], many[j] = many[j], many[i] })
		if s, _, e := resolve.Apply(many[0], many[1:]...); !same(s, newest) || e != api.OK {
			t.Fatalf("P21.3: Apply of 100: %v %d, want %v", s, e, newest)
		}
	}
}

// orders calls f with l in each order from a place on.
func orders(l []api.Snapshot, place int, f func([]api.Snapshot)) {
	if place >= len(l) {
		f(l)
		return
	}
	for i := place; i < len(l); i++ {
		l[place], l[i] = l[i], l[place]
		orders(l, place+1, f)
		l[place], l[i] = l[i], l[place]
	}
}

// TestPieces: what comes in pieces counts as what comes at once; what Diff tells leads from one to the other.
func TestPieces(t *testing.T) {
	r := rand.New(rand.NewSource(212))
	for range 1000 {
		old := anySnapshot(r, 10)
		now, count := old, 0
		var l []api.Snapshot
		for range r.Intn(12) {
			l = append(l, anySnapshot(r, 30))
			next, n, e := resolve.Apply(now, l[len(l)-1])
			if e != api.OK || n != 0 && n != 1 {
				t.Fatalf("P21.1: Apply(%v, %v): %v %d %d", now, l[len(l)-1], next, n, e)
			}
			now, count = next, count+n
		}
		if s, n, e := resolve.Apply(old, l...); !same(s, now) || n != count || e != api.OK {
			t.Fatalf("P21.1: Apply(%v, %v): %v %d %d, in pieces %v %d", old, l, s, n, e, now, count)
		}
		led(t, old, now)
	}
}

// led makes b of a by what Diff and Pick tell.
func led(t *testing.T, a, b api.Snapshot) {
	t.Helper()
	came, went, changed, e := resolve.Diff(a, b)
	stay, _ := resolve.IDs(a)
	stay = slices.DeleteFunc(stay, func(id int) bool { return slices.Contains(went, id) || slices.Contains(changed, id) })
	left, wrong := resolve.Pick(a, stay...)
	news := append(slices.Clone(came), changed...)
	slices.Sort(news)
	more, worse := resolve.Pick(b, news...)
	all := append(left, more...)
	slices.SortFunc(all, func(x, y api.Backend) int { return x.ID - y.ID })
	if !slices.Equal(all, b.Backends) || e != api.OK || wrong != api.OK || worse != api.OK {
		t.Fatalf("P21.2: from %v to %v: %v %v %v lead to %v; %d %d %d", a, b, came, went, changed, all, e, wrong, worse)
	}
}

// marked has room behind its backends, which tells by -5 that nobody wrote there.
func marked(s api.Snapshot) api.Snapshot {
	room := slices.Repeat([]api.Backend{{ID: -5, Weight: -5}}, 3)
	s.Backends = append(slices.Clone(s.Backends), room...)[:len(s.Backends)]
	return s
}

// TestNotChanged: what is handed in stays, with the room behind it.
func TestNotChanged(t *testing.T) {
	all := rights()
	for _, some := range wrongs() {
		all = append(all, some...)
	}
	for i, s := range all {
		given, other := marked(s), marked(all[(i+1)%len(all)])
		l, ids := []api.Snapshot{other, given, {Version: 900}, other}, []int{1, 0, 2, 7, 2, -5}
		resolve.Check(given)
		resolve.IDs(given)
		resolve.Weight(given)
		resolve.Apply(given)
		resolve.Apply(given, l[:2]...)
		resolve.Apply(given, l...)
		resolve.Apply(api.Snapshot{}, l...)
		resolve.Diff(given, other)
		resolve.Diff(other, given)
		resolve.Diff(given, given)
		resolve.Pick(given)
		resolve.Pick(given, ids...)
		resolve.Pick(given, ids[:1]...)
		if !same(given, s) || !same(l[0], other) || !same(l[1], given) || !same(l[2], made(900)) || !same(l[3], other) || !slices.Equal(ids, []int{1, 0, 2, 7, 2, -5}) {
			t.Errorf("P21.4: what is handed in is changed: %v %v %v, want %v", given, l, ids, s)
		}
		for _, x := range []api.Snapshot{given, other} {
			if room := x.Backends[len(x.Backends):][:3]; !slices.Equal(room, slices.Repeat([]api.Backend{{ID: -5, Weight: -5}}, 3)) {
				t.Errorf("P21.4: the room behind %v is changed: %v", x, room)
			}
		}
	}
}

// spoil and spoilIDs write over a list, to the end of its room.
func spoil(l []api.Backend) {
	l = l[:cap(l)]
	for i := range l {
		l[i] = api.Backend{ID: -77, Weight: -77}
	}
}

func spoilIDs(l []int) {
	l = l[:cap(l)]
	for i := range l {
		l[i] = -77
	}
}

// TestNewMemory: an answer that is written over changes no argument and no other answer, be it that nothing was to be done.
func TestNewMemory(t *testing.T) {
	for _, s := range rights() {
		given, other := marked(s), marked(made(1<<29, 2, 5, 5, 5))
		for _, l := range [][]api.Snapshot{nil, {other}, {{}}, {{}, given}, {other, other}, {other, {Version: 9}, given}} {
			want, count, _ := slowApply(s, l)
			want = clone(want)
			for range 3 {
				out, n, e := resolve.Apply(given, l...)
				if !same(out, want) || n != count || e != api.OK {
					t.Fatalf("P21.4: Apply(%v, %v) shares memory: %v %d %d, want %v", given, l, out, n, e, want)
				}
				spoil(out.Backends)
			}
		}
		ids, _ := resolve.IDs(s)
		ids = slices.Clone(ids)
		for range 3 {
			l, e := resolve.Pick(given, ids...)
			if !slices.Equal(l, s.Backends) || e != api.OK {
				t.Fatalf("P21.4: Pick(%v) shares memory: %v %d", given, l, e)
			}
			spoil(l)
			out, e := resolve.IDs(given)
			if !slices.Equal(out, ids) || e != api.OK {
				t.Fatalf("P21.4: IDs(%v) shares memory: %v %d", given, out, e)
			}
			spoilIDs(out)
		}
		for which := range 3 {
			lists := func() [3][]int {
				x, y, z, _ := resolve.Diff(given, other)
				return [3][]int{x, y, z}
			}
			came, went, changed, _ := slowDiff(s, other)
			want, got := [3][]int{came, went, changed}, lists()
			spoilIDs(got[which])
			for i, again := range lists() {
				if i != which && !slices.Equal(got[i], want[i]) || !slices.Equal(again, want[i]) {
					t.Fatalf("P21.4: Diff(%v, %v) shares memory: %v, then %v, want %v", given, other, got[i], again, want[i])
				}
			}
		}
		if !same(given, s) || !same(other, made(1<<29, 2, 5, 5, 5)) {
			t.Fatalf("P21.4: an answer shares memory with an argument: %v %v", given, other)
		}
	}
}

// TestNotKept: what is changed behind a call changes no answer, and calls know nothing of each other.
func TestNotKept(t *testing.T) {
	ask := func(a, b api.Snapshot, ids []int) (api.Snapshot, []int, [3][]int, []api.Backend) {
		s, _, _ := resolve.Apply(a, b)
		all, _ := resolve.IDs(b)
		x, y, z, _ := resolve.Diff(a, b)
		l, _ := resolve.Pick(a, ids...)
		return s, all, [3][]int{x, y, z}, l
	}
	a, b, ids := row(3, 9, 0), row(4, 9, 5), []int{1, 4, 8}
	s, all, diff, picked := ask(a, b, ids)
	spoil(a.Backends)
	spoil(b.Backends)
	clear(ids)
	same3 := func(x [3][]int) bool {
		return slices.Equal(x[0], []int{9, 10, 11, 12, 13}) && slices.Equal(x[1], []int{0, 1, 2, 3, 4}) && slices.Equal(x[2], []int{5, 6, 7, 8})
	}
	wantPicked := []api.Backend{{ID: 1, Weight: 2}, {ID: 4, Weight: 5}, {ID: 8, Weight: 9}}
	for range 2 {
		if !same(s, row(4, 9, 5)) || !slices.Equal(all, []int{5, 6, 7, 8, 9, 10, 11, 12, 13}) || !same3(diff) || !slices.Equal(picked, wantPicked) {
			t.Errorf("P21.4: what is handed in, or told by the calls ahead, is kept: %v %v %v %v", s, all, diff, picked)
		}
		ask(row(20, 5, 70), row(30, 5, 72), []int{70})
		resolve.Apply(api.Snapshot{}, made(mostVersion, 1, 1))
		s, all, diff, picked = ask(row(3, 9, 0), row(4, 9, 5), []int{1, 4, 8})
	}
}

// TestAtOnce: goroutines that call at the same time are told what one is told.
func TestAtOnce(t *testing.T) {
	a, b, c := row(3, 30, 0), row(7, 30, 9), row(5, 30, 4)
	type told struct {
		s             api.Snapshot
		n, weight     int
		ids, x, y, z  []int
		picked        []api.Backend
		one, two, and api.Errno
	}
	ask := func() told {
		var x told
		x.s, x.n, x.one = resolve.Apply(a, c, b, c)
		x.ids, _ = resolve.IDs(a)
		x.x, x.y, x.z, x.two = resolve.Diff(a, b)
		x.picked, x.and = resolve.Pick(c, 5, 9, 20)
		x.weight, _ = resolve.Weight(b)
		return x
	}
	want := ask()
	got := make([]told, 16)
	var all sync.WaitGroup
	for i := range got {
		all.Go(func() {
			for range 50 {
				got[i] = ask()
			}
		})
	}
	all.Wait()
	for i, x := range got {
		lists := slices.Equal(x.ids, want.ids) && slices.Equal(x.x, want.x) && slices.Equal(x.y, want.y) && slices.Equal(x.z, want.z) && slices.Equal(x.picked, want.picked)
		if !lists || !same(x.s, want.s) || x.n != want.n || x.weight != want.weight || x.one != want.one || x.two != want.two || x.and != want.and {
			t.Errorf("P21.4: goroutine %d is told %v, want %v", i, x, want)
		}
	}
}

// FuzzResolve holds P21.1 to P21.3 for snapshots that are told by octets, and for numbers of any kind.
func FuzzResolve(f *testing.F) {
	f.Add([]byte{}, []byte{}, 0, 0)
	f.Add([]byte{3, 1, 5, 2, 9, 3}, []byte{1, 4, 2, 5}, 4, 2)
	f.Add([]byte{1, 1, 2, 2, 3, 3}, []byte{1, 1, 2, 3}, 1, -1)
	f.Add([]byte{250, 1, 251, 2}, []byte{3, 252, 253, 4}, math.MaxInt, math.MinInt)
	f.Add([]byte{0, 16, 3, 2, 249, 1}, []byte{0, 0, 0, 9, 2, 7}, mostVersion, 3)
	f.Fuzz(func(t *testing.T, b, c []byte, version, id int) {
		x, y := told(version, b), told(id, c)
		mean := told(5, append(slices.Clone(b), c...))
		for _, s := range []api.Snapshot{x, y, mean} {
			agree(t, s)
			agreeOnApply(t, s, x, mean, y)
			agreeOnApply(t, made(3), s, y, x)
			agreeOnDiff(t, s, x)
			agreeOnDiff(t, s, y)
			agreeOnPick(t, s, id)
			var ids []int
			for _, octet := range c {
				ids = append(ids, int(octet))
			}
			agreeOnPick(t, s, ids...)
		}
		one, _, e := resolve.Apply(x, y, mean)
		other, _, wrong := resolve.Apply(x, mean, y)
		if x.Version != y.Version && x.Version != 5 && y.Version != 5 && e == api.OK && (!same(one, other) || wrong != api.OK) {
			t.Fatalf("P21.3: %v counts, and in another order %v; %d", one, other, wrong)
		}
	})
}

// told is a snapshot of octets, an ID (which is told by how far it is from the last one) and a Weight each; the greatest octets are numbers at the edges.
func told(version int, b []byte) api.Snapshot {
	number := func(octet byte, last int) int {
		if octet < 250 {
			return last + int(octet)
		}
		return []int{-1, 0, 17, mostID, mostID + 1, math.MinInt}[octet-250]
	}
	s := api.Snapshot{Version: version}
	last := 0
	for i := 0; i+1 < len(b); i += 2 {
		last = number(b[i], last)
		s.Backends = append(s.Backends, api.Backend{ID: last, Weight: number(b[i+1], 0)})
	}
	return s
}
