package timer_test

import (
	"container/heap"
	"math"
	"math/rand"
	"slices"
	"sync"
	"testing"

	"waybill/api"
	"waybill/timer"
)

// The document's numbers, written out.
const (
	mostTimers = 1024
	mostNumber = 1073741824
)

// outside are numbers that neither an At nor an ID may be.
var outside = []int{-1, -2, -mostNumber, math.MinInt32, -1 << 32, math.MinInt + 1, math.MinInt, mostNumber + 1, mostNumber + 2, math.MaxInt32, 1 << 31, 1 << 32, 1<<32 + 3, 1 << 62, math.MaxInt - 1, math.MaxInt}

// goesAhead is the chapter's word: by At, then ID.
func goesAhead(x, y api.Timer) bool {
	if x.At != y.At {
		return x.At < y.At
	}
	return x.ID < y.ID
}

func mayBe(x api.Timer) bool {
	return 0 <= x.At && x.At <= mostNumber && 0 <= x.ID && x.ID <= mostNumber
}

// slowCheck goes by the chapter's words, one after the other.
func slowCheck(l []api.Timer) api.Errno {
	if len(l) > mostTimers {
		return api.ErrCount
	}
	for _, x := range l {
		if !mayBe(x) {
			return api.ErrRange
		}
	}
	for i, x := range l {
		for _, y := range l[:i] {
			if x.ID == y.ID {
				return api.ErrTwice
			}
		}
	}
	for i, x := range l {
		for _, below := range []int{2*i + 1, 2*i + 2} {
			if below < len(l) && goesAhead(l[below], x) {
				return api.ErrState
			}
		}
	}
	return api.OK
}

// pile is a heap for the library's package heap, which rises and sinks as the chapter says.
type pile []api.Timer

func (p pile) Len() int           { return len(p) }
func (p pile) Less(i, j int) bool { return goesAhead(p[i], p[j]) }
func (p pile) Swap(i, j int)      { p[i], p[j] = p[j], p[i] }
func (p *pile) Push(x any)        { *p = append(*p, x.(api.Timer)) }
func (p *pile) Pop() any {
	l := *p
	last := l[len(l)-1]
	*p = l[:len(l)-1]
	return last
}

func slowAdd(l, more []api.Timer) ([]api.Timer, api.Errno) {
	if e := slowCheck(l); e != api.OK {
		return nil, e
	}
	p := pile(slices.Clone(l))
	for _, x := range more {
		if len(p) >= mostTimers {
			return nil, api.ErrCount
		}
		if !mayBe(x) {
			return nil, api.ErrRange
		}
		for _, y := range p {
			if x.ID == y.ID {
				return nil, api.ErrTwice
			}
		}
		heap.Push(&p, x)
	}
	return p, api.OK
}

// slowFirst asks each one if another is ahead of it.
func slowFirst(l []api.Timer) (api.Timer, api.Errno) {
	if e := slowCheck(l); e != api.OK {
		return api.Timer{}, e
	}
	for _, x := range l {
		if !slices.ContainsFunc(l, func(y api.Timer) bool { return goesAhead(y, x) }) {
			return x, api.OK
		}
	}
	return api.Timer{}, api.ErrNone
}

// slowOrder puts each one at the place that is told by how many are ahead of it.
func slowOrder(l []api.Timer) ([]api.Timer, api.Errno) {
	if e := slowCheck(l); e != api.OK {
		return nil, e
	}
	order := make([]api.Timer, len(l))
	for _, x := range l {
		place := 0
		for _, y := range l {
			if goesAhead(y, x) {
				place++
			}
		}
		order[place] = x
	}
	return order, api.OK
}

func slowDue(l []api.Timer, tick int) ([]api.Timer, []int, api.Errno) {
	if e := slowCheck(l); e != api.OK {
		return nil, nil, e
	}
	p := pile(slices.Clone(l))
	var ids []int
	for len(p) > 0 && p[0].At <= tick {
		ids = append(ids, heap.Pop(&p).(api.Timer).ID)
	}
	return p, ids, api.OK
}

func slowCancel(l []api.Timer, ids []int) ([]api.Timer, int, api.Errno) {
	if e := slowCheck(l); e != api.OK {
		return nil, 0, e
	}
	var left []api.Timer
	out := 0
	for _, x := range l {
		if slices.Contains(ids, x.ID) {
			out++
		} else {
			left = append(left, x)
		}
	}
	left, e := slowAdd(nil, left)
	return left, out, e
}

// agree holds the calls that take nothing beside a queue.
func agree(t *testing.T, l []api.Timer) {
	t.Helper()
	if e, wrong := timer.Check(l), slowCheck(l); e != wrong {
		t.Fatalf("P20.1: Check(%v): %d, want %d", l, e, wrong)
	}
	first, wrong := slowFirst(l)
	if x, e := timer.First(l); x != first || e != wrong {
		t.Fatalf("P20.1: First(%v): %v %d, want %v %d", l, x, e, first, wrong)
	}
	order, wrong := slowOrder(l)
	if out, e := timer.Order(l); !slices.Equal(out, order) || e != wrong {
		t.Fatalf("P20.1: Order(%v): %v %d, want %v %d", l, out, e, order, wrong)
	}
}

func agreeOnAdd(t *testing.T, l []api.Timer, more ...api.Timer) {
	t.Helper()
	want, wrong := slowAdd(l, more)
	out, e := timer.Add(l, more...)
	if !slices.Equal(out, want) || e != wrong {
		t.Fatalf("P20.1: Add(%v, %v): %v %d, want %v %d", l, more, out, e, want, wrong)
	}
	if e := timer.Check(out); e != api.OK {
		t.Fatalf("P20.1: what Add(%v, %v) answers is no queue: %d", l, more, e)
	}
}

// agreeOnDue holds what is due against the chapter's steps, and (as P20.3 says) against all that are due.
func agreeOnDue(t *testing.T, l []api.Timer, tick int) {
	t.Helper()
	want, wantIDs, wrong := slowDue(l, tick)
	out, ids, e := timer.Due(l, tick)
	if !slices.Equal(out, want) || !slices.Equal(ids, wantIDs) || e != wrong {
		t.Fatalf("P20.2: Due(%v, %d): %v %v %d, want %v %v %d", l, tick, out, ids, e, want, wantIDs, wrong)
	}
	if e := timer.Check(out); e != api.OK {
		t.Fatalf("P20.2: what Due(%v, %d) leaves is no queue: %d", l, tick, e)
	}
	order, _ := slowOrder(l)
	var due []int
	var left []api.Timer
	for _, x := range order {
		if x.At <= tick {
			due = append(due, x.ID)
		} else {
			left = append(left, x)
		}
	}
	if stays, _ := slowOrder(out); !slices.Equal(ids, due) || !slices.Equal(stays, left) {
		t.Fatalf("P20.3: Due(%v, %d): %v, and %v stay; want %v, and %v", l, tick, ids, stays, due, left)
	}
}

func agreeOnCancel(t *testing.T, l []api.Timer, ids ...int) {
	t.Helper()
	want, count, wrong := slowCancel(l, ids)
	out, n, e := timer.Cancel(l, ids...)
	if !slices.Equal(out, want) || n != count || e != wrong {
		t.Fatalf("P20.2: Cancel(%v, %v): %v %d %d, want %v %d %d", l, ids, out, n, e, want, count, wrong)
	}
	if e := timer.Check(out); e != api.OK {
		t.Fatalf("P20.2: what Cancel(%v, %v) leaves is no queue: %d", l, ids, e)
	}
}

// made are timers of pairs, an At and an ID each.
func made(pairs ...int) []api.Timer {
	var l []api.Timer
	for i := 0; i < len(pairs); i += 2 {
		l = append(l, api.Timer{At: pairs[i], ID: pairs[i+1]})
	}
	return l
}

// rising are so many timers, from an ID on, which are a queue.
func rising(size, first int) []api.Timer {
	l := make([]api.Timer, size)
	for i := range l {
		l[i] = api.Timer{At: 3 * i, ID: first + i}
	}
	return l
}

// rights are queues.
func rights() [][]api.Timer {
	return [][]api.Timer{
		nil, {}, made(0, 0), made(5, 7), made(mostNumber, mostNumber), made(0, mostNumber), made(mostNumber, 0),
		made(3, 1, 5, 2), made(3, 1, 3, 2), made(3, 2, 4, 1), made(0, 0, mostNumber, mostNumber),
		made(1, 1, 2, 2, 3, 3), made(1, 1, 3, 3, 2, 2), made(1, 1, 1, 3, 1, 2), made(2, 5, 2, 9, 9, 0, 2, 10, 7, 1, 9, 4),
		rising(7, 0), rising(8, 100), rising(31, 5), rising(32, 5), rising(33, mostNumber-32), rising(mostTimers-1, 9), rising(mostTimers, 0),
	}
}

// wrongs are no queues, and what Check says of them.
func wrongs() map[api.Errno][][]api.Timer {
	l := map[api.Errno][][]api.Timer{
		api.ErrCount: {
			rising(mostTimers+1, 0), rising(mostTimers+2, 0), rising(2*mostTimers, 0), rising(1<<16+1, 0), make([]api.Timer, mostTimers+1),
			slices.Repeat(made(-1, -1), mostTimers+1), slices.Repeat(made(5, mostNumber+1, 4, 5), mostTimers),
		},
		api.ErrTwice: {
			made(1, 1, 1, 1), made(1, 1, 2, 1), made(0, 0, 0, 0), made(1, 1, 2, 2, 3, 1), made(1, 1, 2, 2, 3, 2), made(1, 1, 2, 2, 3, 3, 4, 4, 5, 3), make([]api.Timer, mostTimers),
			// These are no heaps either.
			made(2, 1, 1, 1), made(5, 3, 4, 2, 3, 3), made(5, 3, 4, 2, 3, 2),
		},
		api.ErrState: {
			made(2, 1, 1, 2), made(1, 2, 1, 1), made(1, 1, 2, 2, 0, 3), made(1, 2, 2, 3, 1, 1), made(1, 1, 5, 5, 2, 2, 4, 4), made(1, 1, 5, 5, 2, 2, 6, 6, 4, 4), made(1, 1, 5, 5, 3, 3, 6, 6, 5, 4),
			made(1, 1, 2, 2, 5, 5, 3, 3, 4, 4, 4, 6), made(1, 1, 2, 2, 5, 5, 3, 3, 4, 4, 5, 6, 4, 7), made(mostNumber, 0, 0, mostNumber),
		},
	}
	for _, n := range outside {
		l[api.ErrRange] = append(l[api.ErrRange],
			made(n, 1), made(1, n), made(n, n), made(0, 0, n, 1), made(1, 2, 2, n), made(n, 1, n, 1), made(0, n, 0, n), made(5, 5, 4, 4, n, 5), made(5, 5, 4, 5, 3, n))
	}
	for _, place := range []int{1, 2, 3, 500, mostTimers - 2, mostTimers - 1} {
		late := rising(mostTimers, 0)
		late[place].At = late[(place-1)/2].At - 1
		if place > 2 {
			l[api.ErrState] = append(l[api.ErrState], late)
		}
		twice := rising(mostTimers, 0)
		twice[place].ID = 0
		l[api.ErrTwice] = append(l[api.ErrTwice], twice)
		far := rising(mostTimers, 0)
		far[place].ID = mostNumber + 1
		l[api.ErrRange] = append(l[api.ErrRange], far)
	}
	return l
}

// TestExamples: the chapter's.
func TestExamples(t *testing.T) {
	l, e := timer.Add(nil, made(5, 1, 3, 2)...)
	if !slices.Equal(l, made(3, 2, 5, 1)) || e != api.OK {
		t.Errorf("P20.1: Add(nil, 5, 3): %v %d", l, e)
	}
	if x, e := timer.First(l); x != (api.Timer{At: 3, ID: 2}) || e != api.OK {
		t.Errorf("P20.1: First of 5 and 3: %v %d, want 3", x, e)
	}
}

func TestRight(t *testing.T) {
	for _, l := range rights() {
		if e := timer.Check(l); e != api.OK {
			t.Errorf("P20.1: Check(%v): %d, want %d", l, e, api.OK)
		}
		agree(t, l)
		agreeOnAdd(t, l)
		agreeOnAdd(t, l, made(0, 999999)...)
		agreeOnAdd(t, l, made(4, 999999, 1, 999998, mostNumber, 999997)...)
		for _, tick := range []int{math.MinInt, -mostNumber, -1, 0, 1, 2, 3, 4, 5, 6, 7, 20, 90, 3 * mostTimers, mostNumber - 1, mostNumber, mostNumber + 1, math.MaxInt} {
			agreeOnDue(t, l, tick)
		}
		agreeOnCancel(t, l)
		for _, id := range []int{0, 1, 2, 3, 9, 105, mostNumber} {
			agreeOnCancel(t, l, id)
			agreeOnCancel(t, l, id, id+1, id, -5, 6)
		}
	}
}

func TestWrong(t *testing.T) {
	for want, some := range wrongs() {
		for _, l := range some {
			shown := l[:min(len(l), 10)]
			if e := timer.Check(l); e != want {
				t.Errorf("P20.1: Check(%v): %d, want %d", shown, e, want)
			}
			if x, e := timer.First(l); x != (api.Timer{}) || e != want {
				t.Errorf("P20.1: First(%v): %v %d, want none and %d", shown, x, e, want)
			}
			if out, e := timer.Order(l); len(out) != 0 || e != want {
				t.Errorf("P20.1: Order(%v): %v %d, want none and %d", shown, out, e, want)
			}
			for _, more := range [][]api.Timer{nil, made(1, 5000), made(-1, 1), l[:1], made(1, 5000, 1, 5000)} {
				if out, e := timer.Add(l, more...); len(out) != 0 || e != want {
					t.Errorf("P20.1: Add(%v, %v): %v %d, want none and %d", shown, more, out, e, want)
				}
			}
			for _, tick := range []int{math.MinInt, -1, 0, 3, mostNumber, math.MaxInt} {
				if out, ids, e := timer.Due(l, tick); len(out) != 0 || len(ids) != 0 || e != want {
					t.Errorf("P20.2: Due(%v, %d): %v %v %d, want none and %d", shown, tick, out, ids, e, want)
				}
			}
			for _, ids := range [][]int{nil, {1}, {l[0].ID}, {-1, 1, 2, 3, 4, 5}} {
				if out, n, e := timer.Cancel(l, ids...); len(out) != 0 || n != 0 || e != want {
					t.Errorf("P20.2: Cancel(%v, %v): %v %d %d, want none and %d", shown, ids, out, n, e, want)
				}
			}
		}
	}
}

func TestAdd(t *testing.T) {
	for _, c := range []struct{ l, more, want []api.Timer }{
		{nil, nil, nil},
		{nil, made(0, 0), made(0, 0)},
		{nil, made(mostNumber, mostNumber), made(mostNumber, mostNumber)},
		{nil, made(1, 1, 2, 2, 3, 3), made(1, 1, 2, 2, 3, 3)},
		{nil, made(3, 3, 2, 2, 1, 1), made(1, 1, 3, 3, 2, 2)},
		{nil, made(1, 3, 1, 2, 1, 1), made(1, 1, 1, 3, 1, 2)},
		// It rises only as long as it is ahead: past 6, not past 2.
		{made(2, 0, 6, 1, 3, 2, 7, 3), made(4, 4), made(2, 0, 4, 4, 3, 2, 7, 3, 6, 1)},
		{made(2, 0, 6, 1, 3, 2, 7, 3), made(1, 4), made(1, 4, 2, 0, 3, 2, 7, 3, 6, 1)},
		{made(2, 0, 6, 1, 3, 2, 7, 3), made(6, 4), made(2, 0, 6, 1, 3, 2, 7, 3, 6, 4)},
		{made(2, 0, 6, 4, 3, 2, 7, 3), made(6, 1), made(2, 0, 6, 1, 3, 2, 7, 3, 6, 4)},
		{made(2, 0, 6, 1, 3, 2, 7, 3, 8, 4), made(1, 5), made(1, 5, 6, 1, 2, 0, 7, 3, 8, 4, 3, 2)},
	} {
		out, e := timer.Add(c.l, c.more...)
		if !slices.Equal(out, c.want) || e != api.OK {
			t.Errorf("P20.1: Add(%v, %v): %v %d, want %v", c.l, c.more, out, e, c.want)
		}
		agreeOnAdd(t, c.l, c.more...)
	}
}

// TestAddWrong: timer by timer, each by the errors in their order.
func TestAddWrong(t *testing.T) {
	full, room := rising(mostTimers, 0), rising(mostTimers-1, 0)
	for _, c := range []struct {
		l, more []api.Timer
		want    api.Errno
	}{
		{full, nil, api.OK}, {room, made(7, 2000), api.OK}, {room, made(0, mostNumber), api.OK}, {nil, full, api.OK}, {rising(500, 0), rising(524, 500), api.OK},
		{full, made(7, 2000), api.ErrCount}, {full, made(-1, 2000), api.ErrCount}, {full, made(7, -1), api.ErrCount}, {full, made(7, 3), api.ErrCount}, {full, made(mostNumber+1, 3, 4, 5), api.ErrCount},
		{room, made(7, 2000, 8, 2001), api.ErrCount}, {room, made(7, 2000, 7, 2000), api.ErrCount}, {room, made(7, 2000, -1, 3), api.ErrCount}, {nil, rising(mostTimers+1, 0), api.ErrCount}, {rising(500, 0), rising(525, 500), api.ErrCount},
		{nil, append(rising(mostTimers, 0), made(-1, 0)...), api.ErrCount}, {made(1, 5000), full, api.ErrCount},
		// The first timer's error goes ahead, be the next one's of another kind.
		{room, made(7, 3, 8, 2001), api.ErrTwice}, {room, made(-7, 2000, 8, 2001), api.ErrRange}, {room, made(7, 3, 8, 2001, 9, 2002), api.ErrTwice},
		{nil, made(1, 1, -1, 2), api.ErrRange}, {nil, made(1, 1, 2, 1), api.ErrTwice}, {nil, made(1, 1, 1, 1), api.ErrTwice}, {nil, made(1, 1, 2, 1, -1, 3), api.ErrTwice}, {nil, made(1, 1, -1, 3, 2, 1), api.ErrRange},
		{made(1, 1), made(2, 1), api.ErrTwice}, {made(1, 1), made(1, 1), api.ErrTwice}, {made(1, 1), made(2, 2, 3, 3, 2, 1), api.ErrTwice}, {made(1, 1), made(2, 2, 3, 3, 4, 2), api.ErrTwice},
		// One of these is wrong in two ways.
		{made(1, 1), made(-1, 1), api.ErrRange}, {made(1, 1), made(mostNumber+1, 1), api.ErrRange},
	} {
		out, e := timer.Add(c.l, c.more...)
		if e != c.want || e != api.OK && len(out) != 0 {
			t.Errorf("P20.1: Add of %d to %d: %v %d, want %d", len(c.more), len(c.l), out, e, c.want)
		}
		agreeOnAdd(t, c.l, c.more...)
	}
	for _, n := range outside {
		for _, more := range [][]api.Timer{made(n, 5000), made(5, n), made(n, n), made(5, 5000, 6, n), made(5, 5000, n, 5000), made(n, 0)} {
			if out, e := timer.Add(rising(4, 0), more...); len(out) != 0 || e != api.ErrRange {
				t.Errorf("P20.1: Add of %v: %v %d, want none and %d", more, out, e, api.ErrRange)
			}
		}
	}
}

func TestNone(t *testing.T) {
	for _, l := range [][]api.Timer{nil, {}, made(1, 1)[:0]} {
		if x, e := timer.First(l); x != (api.Timer{}) || e != api.ErrNone {
			t.Errorf("P20.1: First of none: %v %d, want %d", x, e, api.ErrNone)
		}
		if out, e := timer.Order(l); len(out) != 0 || e != api.OK {
			t.Errorf("P20.1: Order of none: %v %d", out, e)
		}
		if out, ids, e := timer.Due(l, math.MaxInt); len(out) != 0 || len(ids) != 0 || e != api.OK {
			t.Errorf("P20.2: Due of none: %v %v %d", out, ids, e)
		}
		if out, n, e := timer.Cancel(l, 0, 1); len(out) != 0 || n != 0 || e != api.OK {
			t.Errorf("P20.2: Cancel of none: %v %d %d", out, n, e)
		}
	}
}

func TestDue(t *testing.T) {
	for _, c := range []struct {
		l    []api.Timer
		tick int
		left []api.Timer
		ids  []int
	}{
		{made(0, 0), -1, made(0, 0), nil}, {made(0, 0), math.MinInt, made(0, 0), nil}, {made(0, 0), 0, nil, []int{0}},
		{made(5, 1), 4, made(5, 1), nil}, {made(5, 1), 5, nil, []int{1}}, {made(5, 1), 6, nil, []int{1}},
		{made(mostNumber, 3), mostNumber - 1, made(mostNumber, 3), nil}, {made(mostNumber, 3), mostNumber, nil, []int{3}}, {made(mostNumber, 3), math.MaxInt, nil, []int{3}},
		{made(1, 1, 2, 2), 1, made(2, 2), []int{1}},
		{made(1, 2, 1, 3), 1, nil, []int{2, 3}},
		// The last, 6, comes first: it sinks past 3, the one that is ahead of 4, and not past 7.
		{made(2, 0, 4, 1, 3, 2, 5, 3, 8, 4, 7, 5, 6, 6), 2, made(3, 2, 4, 1, 6, 6, 5, 3, 8, 4, 7, 5), []int{0}},
		// It sinks past two.
		{made(2, 0, 3, 1, 4, 2, 5, 3, 6, 4, 7, 5, 9, 6), 2, made(3, 1, 5, 3, 4, 2, 9, 6, 6, 4, 7, 5), []int{0}},
		// Of two that are at one time the lower ID is ahead.
		{made(2, 0, 3, 2, 3, 1, 9, 9), 2, made(3, 1, 3, 2, 9, 9), []int{0}},
		{made(2, 0, 3, 1, 3, 2, 9, 9), 2, made(3, 1, 9, 9, 3, 2), []int{0}},
		{made(2, 0, 3, 1, 4, 2, 3, 5), 2, made(3, 1, 3, 5, 4, 2), []int{0}},
		{made(2, 0, 3, 5, 4, 2, 3, 6, 3, 7), 3, made(4, 2), []int{0, 5, 6, 7}},
		// There is one below alone.
		{made(1, 0, 2, 1, 3, 2), 1, made(2, 1, 3, 2), []int{0}},
		{made(1, 0, 3, 1, 2, 2), 1, made(2, 2, 3, 1), []int{0}},
	} {
		out, ids, e := timer.Due(c.l, c.tick)
		if !slices.Equal(out, c.left) || !slices.Equal(ids, c.ids) || e != api.OK {
			t.Errorf("P20.2: Due(%v, %d): %v %v %d, want %v %v", c.l, c.tick, out, ids, e, c.left, c.ids)
		}
		agreeOnDue(t, c.l, c.tick)
	}
}

func TestCancel(t *testing.T) {
	l := made(2, 0, 4, 1, 3, 2, 5, 3, 8, 4, 7, 5, 6, 6)
	for _, c := range []struct {
		ids  []int
		left []api.Timer
		n    int
	}{
		{nil, l, 0}, {[]int{}, l, 0}, {[]int{7}, l, 0}, {[]int{-1, mostNumber + 1, math.MaxInt, math.MinInt, 1 << 32, 1<<32 + 3}, l, 0},
		// 4, 3, 5, 8, 7 and 6, one by one.
		{[]int{0}, made(3, 2, 4, 1, 5, 3, 8, 4, 7, 5, 6, 6), 1},
		{[]int{0, 0, 0}, made(3, 2, 4, 1, 5, 3, 8, 4, 7, 5, 6, 6), 1},
		// 2, 3, 5, 8, 7 and 6.
		{[]int{1}, made(2, 0, 3, 2, 5, 3, 8, 4, 7, 5, 6, 6), 1},
		{[]int{6}, made(2, 0, 4, 1, 3, 2, 5, 3, 8, 4, 7, 5), 1},
		// 8, 7 and 6: 7 rises past 8, 6 past 7.
		{[]int{0, 1, 2, 3}, made(6, 6, 8, 4, 7, 5), 4},
		{[]int{3, 99, 2, 1, 3, 0, -4}, made(6, 6, 8, 4, 7, 5), 4},
		{[]int{6, 5, 4, 3, 2, 1, 0}, nil, 7},
		{[]int{6, 5, 4, 3, 2, 1, 0, 6, 5, 4, 3, 2, 1, 0}, nil, 7},
		{[]int{6, 5, 3, 2, 1, 0}, made(8, 4), 6},
	} {
		out, n, e := timer.Cancel(l, c.ids...)
		if !slices.Equal(out, c.left) || n != c.n || e != api.OK {
			t.Errorf("P20.2: Cancel(%v, %v): %v %d %d, want %v %d", l, c.ids, out, n, e, c.left, c.n)
		}
		agreeOnCancel(t, l, c.ids...)
	}
	// More IDs than there may be timers.
	ids := make([]int, 5*mostTimers)
	for i := range ids {
		ids[i] = 2 * (i % 700)
	}
	agreeOnCancel(t, rising(mostTimers, 0), ids...)
}

// orders hands all orders of 0 to n - 1 to a function.
func orders(n int, take func([]int)) {
	l := make([]int, 0, n)
	var next func()
	next = func() {
		if len(l) == n {
			take(l)
			return
		}
		for id := range n {
			if !slices.Contains(l, id) {
				l = append(l, id)
				next()
				l = l[:len(l)-1]
			}
		}
	}
	next()
}

// TestAllSmall: all orders of up to 5 IDs at all times of 0 to 2.
func TestAllSmall(t *testing.T) {
	for n := range 6 {
		times := 1
		for range n {
			times *= 3
		}
		orders(n, func(ids []int) {
			for time := range times {
				l := make([]api.Timer, n)
				for i, id := range ids {
					l[i] = api.Timer{At: time % 3, ID: id}
					time /= 3
				}
				agree(t, l)
				agreeOnAdd(t, nil, l...)
				if slowCheck(l) != api.OK {
					continue
				}
				for tick := -1; tick <= 3; tick++ {
					agreeOnDue(t, l, tick)
					agreeOnAdd(t, l, made(tick, n)...)
				}
				for some := range 1 << n {
					var out []int
					for id := range n {
						if some>>id&1 == 1 {
							out = append(out, id)
						}
					}
					agreeOnCancel(t, l, out...)
				}
			}
		})
	}
}

// TestAllOrders: all orders of up to 7 timers, one at each time.
func TestAllOrders(t *testing.T) {
	for n := range 8 {
		orders(n, func(times []int) {
			l := make([]api.Timer, n)
			for i, at := range times {
				l[i] = api.Timer{At: at, ID: n - at}
			}
			agreeOnAdd(t, nil, l...)
			if slowCheck(l) != api.OK {
				return
			}
			for tick := range n {
				agreeOnDue(t, l, tick)
				agreeOnCancel(t, l, tick+1)
			}
		})
	}
}

// anyTimers are of unlike IDs, at few or at many times.
func anyTimers(r *rand.Rand, size int) []api.Timer {
	most := []int{1, 3, 20, 1000, mostNumber + 1}[r.Intn(5)]
	l := make([]api.Timer, size)
	for i, id := range r.Perm(size + 10)[:size] {
		l[i] = api.Timer{At: r.Intn(most), ID: id}
	}
	return l
}

// anyQueue is of any layout that there may be, not only of one that calls make.
func anyQueue(r *rand.Rand, size int) []api.Timer {
	p := pile(anyTimers(r, size))
	heap.Init(&p)
	for range r.Intn(size + 1) {
		i, j := r.Intn(size), r.Intn(size)
		p.Swap(i, j)
		if slowCheck(p) != api.OK {
			p.Swap(i, j)
		}
	}
	return p
}

// spoilt is l with one thing wrong now and then.
func spoilt(r *rand.Rand, l []api.Timer) []api.Timer {
	l = slices.Clone(l)
	if len(l) == 0 {
		return l
	}
	i, j := r.Intn(len(l)), r.Intn(len(l))
	switch r.Intn(12) {
	case 0:
		l[i].At = outside[r.Intn(len(outside))]
	case 1:
		l[i].ID = outside[r.Intn(len(outside))]
	case 2:
		l[i].ID = l[j].ID
	case 3:
		l[i], l[j] = l[j], l[i]
	}
	return l
}

func TestAllOfAny(t *testing.T) {
	r := rand.New(rand.NewSource(200))
	checked, added := map[api.Errno]int{}, map[api.Errno]int{}
	for range 4000 {
		l := spoilt(r, anyQueue(r, r.Intn(30)))
		checked[timer.Check(l)]++
		agree(t, l)
		more := anyTimers(r, r.Intn(10))
		for i := range more {
			if r.Intn(20) > 0 {
				more[i].ID += 40
			}
		}
		more = spoilt(r, more)
		_, e := timer.Add(l, more...)
		added[e]++
		agreeOnAdd(t, l, more...)
		agreeOnDue(t, l, r.Intn(50)-5)
		if len(l) > 0 {
			at := l[r.Intn(len(l))].At
			agreeOnDue(t, l, at)
			agreeOnDue(t, l, at-1)
		}
		ids := make([]int, r.Intn(20))
		for i := range ids {
			ids[i] = r.Intn(60) - 10
		}
		agreeOnCancel(t, l, ids...)
	}
	for _, e := range []api.Errno{api.OK, api.ErrRange, api.ErrTwice, api.ErrState} {
		if checked[e] < 50 || added[e] < 50 {
			t.Errorf("P20.1: what Check and Add answered was too much of a kind: %v %v", checked, added)
		}
	}
}

// TestMany: queues of as many timers as there may be, or nearly so.
func TestMany(t *testing.T) {
	r := rand.New(rand.NewSource(201))
	for _, size := range []int{100, 511, 512, 1000, mostTimers - 2, mostTimers - 1, mostTimers, mostTimers + 1} {
		for range 4 {
			l := anyTimers(r, size)
			agreeOnAdd(t, nil, l...)
			p := pile(l)
			heap.Init(&p)
			agree(t, p)
			agreeOnAdd(t, p, made(3, 9000)...)
			agreeOnAdd(t, p, made(0, 9000, 4, 9001, 2, 9002)...)
			agreeOnDue(t, p, p[len(p)/2].At)
			agreeOnDue(t, p, mostNumber)
			agreeOnCancel(t, p, r.Perm(size)[:size/2]...)
		}
	}
}

// TestPieces: what is added or due in pieces is as what is so at once, and what is added comes in order.
func TestPieces(t *testing.T) {
	r := rand.New(rand.NewSource(202))
	for range 500 {
		l := anyTimers(r, r.Intn(60))
		whole, e := timer.Add(nil, l...)
		if e != api.OK {
			t.Fatalf("P20.1: Add(nil, %v): %d", l, e)
		}
		var pieces []api.Timer
		for _, x := range l {
			pieces, _ = timer.Add(pieces, x)
		}
		if !slices.Equal(pieces, whole) {
			t.Fatalf("P20.1: Add(nil, %v) in pieces: %v, want %v", l, pieces, whole)
		}
		var told []int
		left := whole
		for _, tick := range []int{-1, 0, 1, 2, 5, 19, 500, 1 << 29, mostNumber} {
			atOnce, all, _ := timer.Due(whole, tick)
			next, ids, e := timer.Due(left, tick)
			told, left = append(told, ids...), next
			if !slices.Equal(left, atOnce) || !slices.Equal(told, all) || e != api.OK {
				t.Fatalf("P20.3: Due(%v, %d) in pieces: %v %v %d, want %v %v", whole, tick, left, told, e, atOnce, all)
			}
		}
		order, _ := timer.Order(whole)
		var want []int
		for _, x := range order {
			want = append(want, x.ID)
		}
		if len(left) != 0 || !slices.Equal(told, want) {
			t.Fatalf("P20.3: all of %v: %v, and %v is left; want %v", whole, told, left, want)
		}
	}
}

// marked has room behind its timers, which tells by -5 that nobody wrote there.
func marked(l []api.Timer) []api.Timer {
	return append(slices.Clone(l), made(-5, -5, -5, -5, -5, -5)...)[:len(l)]
}

// TestNotChanged: what is handed in stays, with the room behind it.
func TestNotChanged(t *testing.T) {
	lists := rights()
	for _, some := range wrongs() {
		lists = append(lists, some...)
	}
	for _, l := range lists {
		given, more, ids := marked(l), marked(made(4, 7001, 1, 7002, 900, 7003)), []int{2, 0, 7, 2, -5, 1, 900}
		timer.Check(given)
		timer.First(given)
		timer.Order(given)
		timer.Add(given)
		timer.Add(given, more...)
		timer.Add(nil, more...)
		timer.Add(given, more[:1]...)
		timer.Add(given, given...)
		timer.Due(given, 0)
		timer.Due(given, 20)
		timer.Due(given, mostNumber)
		timer.Cancel(given)
		timer.Cancel(given, ids[:4]...)
		timer.Cancel(given, ids...)
		if !slices.Equal(given, l) || !slices.Equal(more, made(4, 7001, 1, 7002, 900, 7003)) || !slices.Equal(ids, []int{2, 0, 7, 2, -5, 1, 900}) {
			t.Errorf("P20.4: what is handed in is changed: %v %v %v, want %v", given, more, ids, l)
		}
		for _, x := range [][]api.Timer{given, more} {
			if room := x[len(x):][:3]; !slices.Equal(room, made(-5, -5, -5, -5, -5, -5)) {
				t.Errorf("P20.4: the room behind %v is changed: %v", x, room)
			}
		}
	}
}

// spoil writes over a list, to the end of its room.
func spoil(l []api.Timer) {
	l = l[:cap(l)]
	for i := range l {
		l[i] = api.Timer{At: -77, ID: -77}
	}
}

// TestNewMemory: an answer that is written over changes no argument and no other answer, be it that nothing was to be done.
func TestNewMemory(t *testing.T) {
	calls := map[string]func([]api.Timer) []api.Timer{
		"Order":             func(l []api.Timer) []api.Timer { out, _ := timer.Order(l); return out },
		"Add of none":       func(l []api.Timer) []api.Timer { out, _ := timer.Add(l); return out },
		"Add":               func(l []api.Timer) []api.Timer { out, _ := timer.Add(l, made(9, 5000, 2, 5001)...); return out },
		"Add to none":       func(l []api.Timer) []api.Timer { out, _ := timer.Add(nil, l...); return out },
		"Due of none":       func(l []api.Timer) []api.Timer { out, _, _ := timer.Due(l, -1); return out },
		"Due":               func(l []api.Timer) []api.Timer { out, _, _ := timer.Due(l, 4); return out },
		"Due of all":        func(l []api.Timer) []api.Timer { out, _, _ := timer.Due(l, mostNumber); return out },
		"Cancel of none":    func(l []api.Timer) []api.Timer { out, _, _ := timer.Cancel(l); return out },
		"Cancel of unknown": func(l []api.Timer) []api.Timer { out, _, _ := timer.Cancel(l, -1, 5000); return out },
		"Cancel":            func(l []api.Timer) []api.Timer { out, _, _ := timer.Cancel(l, 1, 2, 7); return out },
	}
	for name, call := range calls {
		for _, l := range rights() {
			given := marked(l)
			out := call(given)
			kept := slices.Clone(out)
			for range 2 {
				again := call(given)
				if !slices.Equal(again, kept) {
					t.Errorf("P20.4: %s of %v shares memory with what is kept: %v, want %v", name, l, again, kept)
				}
				spoil(again)
			}
			if !slices.Equal(given, l) || !slices.Equal(out, kept) || !slices.Equal(given[len(l):][:3], marked(nil)[:3]) {
				t.Errorf("P20.4: an answer of %s of %v shares memory: %v %v", name, l, given, out)
			}
		}
	}
	l := rising(20, 0)
	left, ids, _ := timer.Due(l, 30)
	kept := slices.Clone(left)
	for i := range ids[:cap(ids)] {
		ids[:cap(ids)][i] = -77
	}
	if again, told, _ := timer.Due(l, 30); !slices.Equal(left, kept) || !slices.Equal(again, kept) || !slices.Equal(told, []int{0, 1, 2, 3, 4, 5, 6, 7, 8, 9, 10}) {
		t.Errorf("P20.4: the IDs of Due share memory: %v %v %v", left, again, told)
	}
}

// TestNotKept: what is changed behind a call changes no answer, and calls know nothing of each other.
func TestNotKept(t *testing.T) {
	l, more, ids := rising(9, 0), made(4, 50, 1, 51), []int{1, 4, 50}
	sum, _ := timer.Add(l, more...)
	left, told, _ := timer.Due(sum, 7)
	few, _, _ := timer.Cancel(sum, ids...)
	order, _ := timer.Order(l)
	all := [][]api.Timer{sum, left, few, order}
	var kept [][]api.Timer
	for _, x := range all {
		kept = append(kept, slices.Clone(x))
	}
	spoil(l)
	spoil(more)
	clear(ids)
	for i, x := range all {
		if !slices.Equal(x, kept[i]) {
			t.Errorf("P20.4: what is handed in is kept: %v, want %v", x, kept[i])
		}
	}
	timer.Add(nil, rising(30, 40)...)
	timer.Due(rising(30, 40), 50)
	timer.Cancel(rising(30, 40), 40, 41)
	if again, e := timer.Add(rising(9, 0), made(4, 50, 1, 51)...); !slices.Equal(again, kept[0]) || e != api.OK {
		t.Errorf("P20.4: Add hangs on the calls ahead: %v %d, want %v", again, e, kept[0])
	}
	if again, ids, e := timer.Due(kept[0], 7); !slices.Equal(again, kept[1]) || !slices.Equal(ids, told) || e != api.OK {
		t.Errorf("P20.4: Due hangs on the calls ahead: %v %v %d, want %v %v", again, ids, e, kept[1], told)
	}
	if again, n, e := timer.Cancel(kept[0], 1, 4, 50); !slices.Equal(again, kept[2]) || n != 3 || e != api.OK {
		t.Errorf("P20.4: Cancel hangs on the calls ahead: %v %d %d, want %v", again, n, e, kept[2])
	}
}

// TestAtOnce: goroutines that call at the same time are told what one is told.
func TestAtOnce(t *testing.T) {
	l, more, ids := rising(40, 0), made(4, 50, 1, 51, 90, 52), []int{1, 4, 50, 1}
	type told struct {
		lists      [][]api.Timer
		ids        []int
		first      api.Timer
		n          int
		a, b, c, d api.Errno
	}
	ask := func() told {
		var x told
		x.lists = make([][]api.Timer, 4)
		x.lists[0], x.a = timer.Add(l, more...)
		x.lists[1], x.ids, x.b = timer.Due(l, 60)
		x.lists[2], x.n, x.c = timer.Cancel(l, ids...)
		x.lists[3], x.d = timer.Order(l)
		x.first, _ = timer.First(l)
		return x
	}
	want := ask()
	got := make([]told, 16)
	var all sync.WaitGroup
	for i := range got {
		all.Go(func() {
			for range 50 {
				got[i] = ask()
			}
		})
	}
	all.Wait()
	for i, x := range got {
		same := slices.EqualFunc(x.lists, want.lists, slices.Equal) && slices.Equal(x.ids, want.ids)
		if !same || x.first != want.first || x.n != want.n || x.a != want.a || x.b != want.b || x.c != want.c || x.d != want.d {
			t.Errorf("P20.4: goroutine %d is told %v, want %v", i, x, want)
		}
	}
}

// FuzzTimer holds P20.1 to P20.3 for timers that are told by octets, and for numbers of any kind.
func FuzzTimer(f *testing.F) {
	f.Add([]byte{}, []byte{}, 0, 0)
	f.Add([]byte{3, 1, 5, 2, 9, 3}, []byte{1, 4, 2, 5}, 4, 2)
	f.Add([]byte{1, 1, 1, 2, 1, 3, 2, 4}, []byte{1, 1}, 1, -1)
	f.Add([]byte{250, 1, 251, 2, 1, 250}, []byte{3, 252, 253, 4}, math.MaxInt, math.MinInt)
	f.Add([]byte{7, 1, 3, 2, 5, 3, 1, 4}, []byte{0, 0, 0, 9, 2, 7}, 5, 1)
	f.Fuzz(func(t *testing.T, b, c []byte, tick, id int) {
		raw, more := told(b), told(c)
		// What was added is a queue: of octets alone, few are.
		queue, _ := timer.Add(nil, raw...)
		for _, l := range [][]api.Timer{raw, queue} {
			agree(t, l)
			agreeOnAdd(t, l, more...)
			agreeOnAdd(t, l, append(made(tick, id), more...)...)
			agreeOnDue(t, l, tick)
			agreeOnDue(t, l, len(c))
			agreeOnCancel(t, l, id)
			ids := []int{id, tick}
			for _, octet := range c {
				ids = append(ids, int(octet))
			}
			agreeOnCancel(t, l, ids...)
		}
	})
}

// told are timers of octets, an At and an ID each; the greatest octets are numbers at the edges.
func told(b []byte) []api.Timer {
	number := func(octet byte) int {
		if octet < 250 {
			return int(octet)
		}
		return []int{-1, mostNumber, mostNumber + 1, math.MaxInt, math.MinInt, 1 << 32}[octet-250]
	}
	var l []api.Timer
	for i := 0; i+1 < len(b); i += 2 {
		l = append(l, api.Timer{At: number(b[i]), ID: number(b[i+1])})
	}
	return l
}
