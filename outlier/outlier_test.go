package outlier_test

import (
	"math"
	"math/big"
	"math/rand"
	"slices"
	"sync"
	"testing"

	"waybill/api"
	"waybill/outlier"
)

// The document's numbers, written out.
const (
	mostSet      = 1000
	mostTicks    = 1048576
	mostPercent  = 100
	mostCount    = 1048576
	mostTimes    = 1000
	mostUntil    = 1073741824
	mostTick     = 536870912
	mostBackends = 32
)

// far are numbers that nothing here may be.
var far = []int{-1, -2, -mostSet, math.MinInt32, mostUntil + 1, math.MaxInt32, 1 << 32, 1<<32 + 1, math.MaxInt - mostTicks, math.MaxInt, math.MinInt, math.MinInt + mostTicks}

// span is a number and the least and the most that it may be.
type span struct {
	n, least, most int
}

func anyOut(l ...span) bool {
	for _, x := range l {
		if x.n < x.least {
			return true
		}
		if x.n > x.most {
			return true
		}
	}
	return false
}

func slowSet(s api.OutlierSet) bool {
	if anyOut(span{s.Row, 1, mostSet}, span{s.Mille, 1, mostSet}, span{s.Least, 1, mostSet}) {
		return false
	}
	if anyOut(span{s.Base, 1, mostTicks}) || anyOut(span{s.Most, s.Base, mostTicks}) {
		return false
	}
	return !anyOut(span{s.Percent, 0, mostPercent}, span{s.Panic, 0, mostPercent})
}

// slowCheck goes by the words of the chapter.
func slowCheck(o api.Outlier, s api.OutlierSet, tick int) api.Errno {
	if !slowSet(s) {
		return api.ErrRange
	}
	if anyOut(span{tick, 0, mostTick}) {
		return api.ErrRange
	}
	if anyOut(span{o.Row, 0, mostCount}, span{o.Good, 0, mostCount}, span{o.Bad, 0, mostCount}) {
		return api.ErrState
	}
	if anyOut(span{o.Times, 0, mostTimes}, span{o.Since, 0, mostUntil}, span{o.Until, 0, mostUntil}) {
		return api.ErrState
	}
	return api.OK
}

// slowRecord counts all ends at once: how many were good, how many bad, and how many stand behind the last good one.
func slowRecord(o api.Outlier, s api.OutlierSet, tick int, l []bool) (api.Outlier, api.Errno) {
	if e := slowCheck(o, s, tick); e != api.OK {
		return api.Outlier{}, e
	}
	good, row := 0, o.Row
	for _, is := range l {
		if is {
			good++
		}
	}
	tail := slices.Clone(l)
	slices.Reverse(tail)
	if last := slices.Index(tail, true); last >= 0 {
		row = last
	} else {
		row += len(l)
	}
	return api.Outlier{
		Row: min(row, mostCount), Good: min(o.Good+good, mostCount), Bad: min(o.Bad+len(l)-good, mostCount),
		Times: o.Times, Since: o.Since, Until: o.Until, Out: o.Out,
	}, api.OK
}

// slowRipe holds the share of bad ones against Mille as fractions.
func slowRipe(o api.Outlier, s api.OutlierSet, tick int) (bool, api.Errno) {
	if e := slowCheck(o, s, tick); e != api.OK {
		return false, e
	}
	if o.Out {
		return false, api.OK
	}
	if o.Row >= s.Row {
		return true, api.OK
	}
	if o.Good+o.Bad < s.Least {
		return false, api.OK
	}
	share := big.NewRat(int64(o.Bad), int64(o.Good+o.Bad))
	return share.Cmp(big.NewRat(int64(s.Mille), 1000)) >= 0, api.OK
}

func slowEject(o api.Outlier, s api.OutlierSet, tick int) (api.Outlier, api.Errno) {
	if e := slowCheck(o, s, tick); e != api.OK {
		return api.Outlier{}, e
	}
	if o.Out {
		return api.Outlier{}, api.ErrState
	}
	times := o.Times + 1
	if times > mostTimes {
		times = mostTimes
	}
	long := s.Most
	if s.Base*times < s.Most {
		long = s.Base * times
	}
	return api.Outlier{Times: times, Since: tick, Until: tick + long, Out: true}, api.OK
}

func slowTick(o api.Outlier, s api.OutlierSet, tick int) (api.Outlier, api.Errno) {
	if e := slowCheck(o, s, tick); e != api.OK {
		return api.Outlier{}, e
	}
	if !o.Out || o.Until > tick {
		return o, api.OK
	}
	return api.Outlier{Row: o.Row, Good: o.Good, Bad: o.Bad, Times: o.Times, Since: o.Since, Until: o.Until}, api.OK
}

// slowRoom puts out one more at a time, as long as Percent lets it.
func slowRoom(s api.OutlierSet, n, out int) (int, api.Errno) {
	if !slowSet(s) || anyOut(span{n, 0, mostBackends}) || anyOut(span{out, 0, n}) {
		return 0, api.ErrRange
	}
	room := 0
	for 100*(out+room+1) <= s.Percent*n {
		room++
	}
	return room, api.OK
}

// slowPanics holds the share of healthy ones against Panic as fractions.
func slowPanics(s api.OutlierSet, n, healthy int) (bool, api.Errno) {
	if !slowSet(s) || anyOut(span{n, 0, mostBackends}) || anyOut(span{healthy, 0, n}) {
		return false, api.ErrRange
	}
	if n == 0 {
		return false, api.OK
	}
	return big.NewRat(int64(healthy), int64(n)).Cmp(big.NewRat(int64(s.Panic), 100)) < 0, api.OK
}

// agree holds all calls of what is known against their slow forms.
func agree(t *testing.T, o api.Outlier, s api.OutlierSet, tick int, l ...bool) {
	t.Helper()
	wrong := slowCheck(o, s, tick)
	if e := outlier.Check(o, s, tick); e != wrong {
		t.Fatalf("P16.1: Check(%v, %v, %d): %d, want %d", o, s, tick, e, wrong)
	}
	want, wrong := slowRecord(o, s, tick, l)
	if out, e := outlier.Record(o, s, tick, l...); out != want || e != wrong {
		t.Fatalf("P16.1: Record(%v, %v, %d, %t): %v %d, want %v %d", o, s, tick, l, out, e, want, wrong)
	}
	is, wrong := slowRipe(o, s, tick)
	if ripe, e := outlier.Ripe(o, s, tick); ripe != is || e != wrong {
		t.Fatalf("P16.1: Ripe(%v, %v, %d): %t %d, want %t %d", o, s, tick, ripe, e, is, wrong)
	}
	want, wrong = slowEject(o, s, tick)
	if out, e := outlier.Eject(o, s, tick); out != want || e != wrong {
		t.Fatalf("P16.2: Eject(%v, %v, %d): %v %d, want %v %d", o, s, tick, out, e, want, wrong)
	}
	want, wrong = slowTick(o, s, tick)
	if out, e := outlier.Tick(o, s, tick); out != want || e != wrong {
		t.Fatalf("P16.2: Tick(%v, %v, %d): %v %d, want %v %d", o, s, tick, out, e, want, wrong)
	}
}

// agreeOn holds the calls of counts against their slow forms.
func agreeOn(t *testing.T, s api.OutlierSet, n, part int) {
	t.Helper()
	want, wrong := slowRoom(s, n, part)
	if room, e := outlier.Room(s, n, part); room != want || e != wrong {
		t.Fatalf("P16.2: Room(%v, %d, %d): %d %d, want %d %d", s, n, part, room, e, want, wrong)
	}
	is, wrong := slowPanics(s, n, part)
	if panics, e := outlier.Panics(s, n, part); panics != is || e != wrong {
		t.Fatalf("P16.2: Panics(%v, %d, %d): %t %d, want %t %d", s, n, part, panics, e, is, wrong)
	}
}

// ends are told by letters: g a good one, x a bad one.
func ends(text string) []bool {
	var l []bool
	for _, c := range text {
		l = append(l, c == 'g')
	}
	return l
}

// ordinary are something known, settings and a tick that may be.
func ordinary() (api.Outlier, api.OutlierSet, int) {
	return api.Outlier{Row: 2, Good: 7, Bad: 3, Times: 4, Since: 20, Until: 60, Out: false},
		api.OutlierSet{Row: 5, Mille: 400, Least: 8, Base: 10, Most: 300, Percent: 40, Panic: 30}, 70
}

// TestCheckEdges: each number at the ends of its range, and next to them.
func TestCheckEdges(t *testing.T) {
	var o api.Outlier
	var s api.OutlierSet
	var tick int
	for _, c := range []struct {
		name        string
		number      *int
		least, most int
		wrong       api.Errno
	}{
		{"s.Row", &s.Row, 1, mostSet, api.ErrRange},
		{"s.Mille", &s.Mille, 1, mostSet, api.ErrRange},
		{"s.Least", &s.Least, 1, mostSet, api.ErrRange},
		{"s.Base", &s.Base, 1, 300, api.ErrRange},
		{"s.Most", &s.Most, 10, mostTicks, api.ErrRange},
		{"s.Percent", &s.Percent, 0, mostPercent, api.ErrRange},
		{"s.Panic", &s.Panic, 0, mostPercent, api.ErrRange},
		{"tick", &tick, 0, mostTick, api.ErrRange},
		{"o.Row", &o.Row, 0, mostCount, api.ErrState},
		{"o.Good", &o.Good, 0, mostCount, api.ErrState},
		{"o.Bad", &o.Bad, 0, mostCount, api.ErrState},
		{"o.Times", &o.Times, 0, mostTimes, api.ErrState},
		{"o.Since", &o.Since, 0, mostUntil, api.ErrState},
		{"o.Until", &o.Until, 0, mostUntil, api.ErrState},
	} {
		ask := func(n int, want api.Errno) {
			for _, out := range []bool{false, true} {
				o, s, tick = ordinary()
				o.Out = out
				*c.number = n
				if e := outlier.Check(o, s, tick); e != want {
					t.Errorf("P16.1: Check with %s %d: %d, want %d", c.name, n, e, want)
				}
				agree(t, o, s, tick, ends("gxxgx")...)
				agreeOn(t, s, 5, 2)
			}
		}
		for _, n := range []int{c.least, c.most, (c.least + c.most) / 2} {
			ask(n, api.OK)
		}
		for _, n := range append([]int{c.least - 1, c.most + 1}, far...) {
			ask(n, c.wrong)
		}
	}
}

// TestBaseAndMost: Base may be as much as Most is, and Most as much as 2^20.
func TestBaseAndMost(t *testing.T) {
	o, s, tick := ordinary()
	for _, c := range []struct {
		base, most int
		want       api.Errno
	}{
		{1, 1, api.OK}, {2, 1, api.ErrRange}, {1, 0, api.ErrRange}, {0, 0, api.ErrRange}, {0, 1, api.ErrRange},
		{7, 7, api.OK}, {8, 7, api.ErrRange}, {1, mostTicks, api.OK}, {mostTicks, mostTicks, api.OK},
		{mostTicks, mostTicks - 1, api.ErrRange}, {mostTicks + 1, mostTicks + 1, api.ErrRange},
		{mostTicks, mostTicks + 1, api.ErrRange}, {-3, -2, api.ErrRange}, {math.MaxInt, math.MaxInt, api.ErrRange},
		{math.MinInt, 5, api.ErrRange}, {5, math.MinInt, api.ErrRange},
	} {
		s.Base, s.Most = c.base, c.most
		if e := outlier.Check(o, s, tick); e != c.want {
			t.Errorf("P16.1: Check with Base %d and Most %d: %d, want %d", c.base, c.most, e, c.want)
		}
		if _, e := outlier.Room(s, 5, 1); e != c.want {
			t.Errorf("P16.2: Room with Base %d and Most %d: %d, want %d", c.base, c.most, e, c.want)
		}
		if _, e := outlier.Panics(s, 5, 1); e != c.want {
			t.Errorf("P16.2: Panics with Base %d and Most %d: %d, want %d", c.base, c.most, e, c.want)
		}
	}
}

// TestErrorsInOrder: settings and tick go ahead of what is known, and beside an error all is zero.
func TestErrorsInOrder(t *testing.T) {
	good, set, now := ordinary()
	bad := api.Outlier{Row: -1, Good: -1, Bad: -1, Times: -1, Since: -1, Until: -1, Out: true}
	for _, c := range []struct {
		o     api.Outlier
		s     api.OutlierSet
		tick  int
		wrong api.Errno
	}{
		{bad, api.OutlierSet{}, -1, api.ErrRange},
		{bad, api.OutlierSet{}, now, api.ErrRange},
		{bad, set, -1, api.ErrRange},
		{bad, set, mostTick + 1, api.ErrRange},
		{bad, set, now, api.ErrState},
		{good, api.OutlierSet{}, now, api.ErrRange},
		{good, set, mostTick + 1, api.ErrRange},
		{api.Outlier{Out: true}, api.OutlierSet{}, now, api.ErrRange},
		{api.Outlier{Out: true}, set, -1, api.ErrRange},
		{api.Outlier{Row: 1000, Until: mostUntil + 1}, set, now, api.ErrState},
	} {
		agree(t, c.o, c.s, c.tick, true, false)
		if e := outlier.Check(c.o, c.s, c.tick); e != c.wrong {
			t.Errorf("P16.1: Check(%v, %v, %d): %d, want %d", c.o, c.s, c.tick, e, c.wrong)
		}
		for _, l := range [][]bool{nil, {true}, {false, false}} {
			if out, e := outlier.Record(c.o, c.s, c.tick, l...); out != (api.Outlier{}) || e != c.wrong {
				t.Errorf("P16.1: Record(%v, %v, %d, %t): %v %d, want none and %d", c.o, c.s, c.tick, l, out, e, c.wrong)
			}
		}
		if ripe, e := outlier.Ripe(c.o, c.s, c.tick); ripe || e != c.wrong {
			t.Errorf("P16.1: Ripe(%v, %v, %d): %t %d, want false and %d", c.o, c.s, c.tick, ripe, e, c.wrong)
		}
		if out, e := outlier.Eject(c.o, c.s, c.tick); out != (api.Outlier{}) || e != c.wrong {
			t.Errorf("P16.2: Eject(%v, %v, %d): %v %d, want none and %d", c.o, c.s, c.tick, out, e, c.wrong)
		}
		if out, e := outlier.Tick(c.o, c.s, c.tick); out != (api.Outlier{}) || e != c.wrong {
			t.Errorf("P16.2: Tick(%v, %v, %d): %v %d, want none and %d", c.o, c.s, c.tick, out, e, c.wrong)
		}
	}
}

func TestRecord(t *testing.T) {
	_, s, tick := ordinary()
	for _, c := range []struct {
		o    api.Outlier
		text string
		want api.Outlier
	}{
		{api.Outlier{}, "", api.Outlier{}},
		{api.Outlier{}, "g", api.Outlier{Good: 1}},
		{api.Outlier{}, "x", api.Outlier{Row: 1, Bad: 1}},
		{api.Outlier{}, "xxgx", api.Outlier{Row: 1, Good: 1, Bad: 3}},
		{api.Outlier{}, "gxxxg", api.Outlier{Good: 2, Bad: 3}},
		{api.Outlier{Row: 4, Good: 5, Bad: 6, Times: 7, Since: 8, Until: 9}, "", api.Outlier{Row: 4, Good: 5, Bad: 6, Times: 7, Since: 8, Until: 9}},
		{api.Outlier{Row: 4, Good: 5, Bad: 6, Times: 7, Since: 8, Until: 9}, "xx", api.Outlier{Row: 6, Good: 5, Bad: 8, Times: 7, Since: 8, Until: 9}},
		{api.Outlier{Row: 4, Good: 5, Bad: 6, Times: 7, Since: 8, Until: 9}, "gg", api.Outlier{Good: 7, Bad: 6, Times: 7, Since: 8, Until: 9}},

		// One that is out is told what ends, too, and stays out, be its Until long over.
		{api.Outlier{Times: 7, Since: 8, Until: 9, Out: true}, "xgxx", api.Outlier{Row: 2, Good: 1, Bad: 3, Times: 7, Since: 8, Until: 9, Out: true}},
		{api.Outlier{Until: mostUntil, Out: true}, "g", api.Outlier{Good: 1, Until: mostUntil, Out: true}},

		// What stands at its most stays there, and each of the three for itself.
		{api.Outlier{Row: mostCount - 1, Good: mostCount - 1, Bad: mostCount - 1}, "x", api.Outlier{Row: mostCount, Good: mostCount - 1, Bad: mostCount}},
		{api.Outlier{Row: mostCount, Good: mostCount, Bad: mostCount}, "x", api.Outlier{Row: mostCount, Good: mostCount, Bad: mostCount}},
		{api.Outlier{Row: mostCount, Good: mostCount, Bad: mostCount}, "xxgxx", api.Outlier{Row: 2, Good: mostCount, Bad: mostCount}},
		{api.Outlier{Row: mostCount, Good: mostCount - 1, Bad: 5}, "xgg", api.Outlier{Good: mostCount, Bad: 6}},
		{api.Outlier{Row: 3, Bad: mostCount}, "xx", api.Outlier{Row: 5, Bad: mostCount}},
		{api.Outlier{Row: mostCount, Bad: 3}, "xx", api.Outlier{Row: mostCount, Bad: 5}},
	} {
		if out, e := outlier.Record(c.o, s, tick, ends(c.text)...); out != c.want || e != api.OK {
			t.Errorf("P16.1: Record(%v, .., %s): %v %d, want %v", c.o, c.text, out, e, c.want)
		}
	}
}

// TestRecordMany: more ends than any count may be, at once.
func TestRecordMany(t *testing.T) {
	_, s, tick := ordinary()
	bad := make([]bool, mostCount+9)
	good := slices.Repeat([]bool{true}, mostCount+9)
	if out, e := outlier.Record(api.Outlier{}, s, tick, bad...); out != (api.Outlier{Row: mostCount, Bad: mostCount}) || e != api.OK {
		t.Errorf("P16.1: Record of many bad ends: %v %d", out, e)
	}
	if out, e := outlier.Record(api.Outlier{Row: 8}, s, tick, good...); out != (api.Outlier{Good: mostCount}) || e != api.OK {
		t.Errorf("P16.1: Record of many good ends: %v %d", out, e)
	}
	l := slices.Concat(bad, good, bad[:3])
	if out, e := outlier.Record(api.Outlier{}, s, tick, l...); out != (api.Outlier{Row: 3, Good: mostCount, Bad: mostCount}) || e != api.OK {
		t.Errorf("P16.1: Record of many ends: %v %d", out, e)
	}
}

// TestRecordInPieces: ends that are told in pieces are ends that are told at once.
func TestRecordInPieces(t *testing.T) {
	r := rand.New(rand.NewSource(31))
	o, s, tick := ordinary()
	o.Row, o.Good, o.Bad = mostCount-20, mostCount-20, mostCount-20
	for range 300 {
		l := anyEnds(r, r.Intn(60))
		want, _ := outlier.Record(o, s, tick, l...)
		got := o
		for _, good := range l {
			got, _ = outlier.Record(got, s, tick, good)
		}
		at := r.Intn(len(l) + 1)
		two, _ := outlier.Record(o, s, tick, l[:at]...)
		two, _ = outlier.Record(two, s, tick, l[at:]...)
		if got != want || two != want {
			t.Fatalf("P16.1: Record(%v, .., %t): %v at once, %v one by one, %v in two pieces", o, l, want, got, two)
		}
		if e := outlier.Check(want, s, tick); e != api.OK {
			t.Fatalf("P16.1: Record(%v, .., %t): %v, which may not be", o, l, want)
		}
	}
}

func TestRipe(t *testing.T) {
	for _, c := range []struct {
		o                 api.Outlier
		row, mille, least int
		want              bool
	}{
		// A row is enough, however few ends there were.
		{api.Outlier{}, 1, 1, 1, false},
		{api.Outlier{Row: 4}, 5, 1, 1, false},
		{api.Outlier{Row: 5}, 5, 1, 1, true},
		{api.Outlier{Row: 6}, 5, 1, 1, true},
		{api.Outlier{Row: 5, Good: 1000, Bad: 5}, 5, 1000, 1000, true},
		{api.Outlier{Row: 999}, 1000, 1000, 1000, false},
		{api.Outlier{Row: 1000}, 1000, 1000, 1000, true},
		{api.Outlier{Row: mostCount}, 1000, 1000, 1000, true},

		// A share is enough with Least ends or more.
		{api.Outlier{Good: 2, Bad: 2}, 5, 500, 4, true},
		{api.Outlier{Good: 2, Bad: 2}, 5, 500, 5, false},
		{api.Outlier{Good: 2, Bad: 2}, 5, 501, 4, false},
		{api.Outlier{Good: 3, Bad: 2}, 5, 500, 4, false},
		{api.Outlier{Good: 2, Bad: 3}, 5, 500, 4, true},
		{api.Outlier{Bad: 4}, 5, 1000, 4, true},
		{api.Outlier{Bad: 3}, 5, 1000, 4, false},
		{api.Outlier{Good: 1, Bad: 1000}, 5, 1000, 4, false},
		{api.Outlier{Good: 2, Bad: 1}, 5, 333, 3, true},
		{api.Outlier{Good: 2, Bad: 1}, 5, 334, 3, false},
		{api.Outlier{Good: 999, Bad: 1}, 5, 1, 1000, true},
		{api.Outlier{Good: 999, Bad: 1}, 5, 2, 1000, false},
		{api.Outlier{Good: 1000, Bad: 1}, 5, 1, 1000, false},
		{api.Outlier{Good: 998, Bad: 1}, 5, 1, 1000, false},
		{api.Outlier{Good: mostCount}, 5, 1, 1, false},
		{api.Outlier{Bad: mostCount}, 5, 1000, 1000, true},
		{api.Outlier{Good: mostCount, Bad: mostCount}, 5, 500, 1000, true},
		{api.Outlier{Good: mostCount, Bad: mostCount}, 5, 501, 1000, false},
		{api.Outlier{Good: mostCount, Bad: mostCount - 1}, 5, 500, 1000, false},
		{api.Outlier{Row: 4, Good: 3, Bad: 4}, 5, 600, 7, false},

		// Times, Since and Until are nothing to it.
		{api.Outlier{Row: 5, Times: 1000, Since: mostUntil, Until: mostUntil}, 5, 1000, 1000, true},

		// One that is out is not ripe, be its Until long over.
		{api.Outlier{Row: mostCount, Out: true}, 1, 1, 1, false},
		{api.Outlier{Good: 2, Bad: 2, Out: true}, 5, 500, 4, false},
		{api.Outlier{Row: 9, Bad: 9, Until: mostUntil, Out: true}, 1, 1, 1, false},
	} {
		s := api.OutlierSet{Row: c.row, Mille: c.mille, Least: c.least, Base: 1, Most: 1}
		if ripe, e := outlier.Ripe(c.o, s, 9); ripe != c.want || e != api.OK {
			t.Errorf("P16.1: Ripe(%v, %v, 9): %t %d, want %t", c.o, s, ripe, e, c.want)
		}
	}
}

func TestEject(t *testing.T) {
	_, s, _ := ordinary()
	slow := s
	slow.Base, slow.Most = 1, mostTicks
	most := s
	most.Base, most.Most = mostTicks, mostTicks
	one := s
	one.Base, one.Most = 1, 1
	for _, c := range []struct {
		o     api.Outlier
		s     api.OutlierSet
		tick  int
		want  api.Outlier
		wrong api.Errno
	}{
		{api.Outlier{}, s, 0, api.Outlier{Times: 1, Until: 10, Out: true}, api.OK},
		{api.Outlier{Row: 4, Good: 5, Bad: 6, Times: 7, Since: 8, Until: 9}, s, 50, api.Outlier{Times: 8, Since: 50, Until: 130, Out: true}, api.OK},
		{api.Outlier{Times: 28}, s, 50, api.Outlier{Times: 29, Since: 50, Until: 340, Out: true}, api.OK},
		{api.Outlier{Times: 29}, s, 50, api.Outlier{Times: 30, Since: 50, Until: 350, Out: true}, api.OK},
		{api.Outlier{Times: 30}, s, 50, api.Outlier{Times: 31, Since: 50, Until: 350, Out: true}, api.OK},
		{api.Outlier{Times: 1000}, s, 50, api.Outlier{Times: 1000, Since: 50, Until: 350, Out: true}, api.OK},
		{api.Outlier{Times: 998}, slow, 50, api.Outlier{Times: 999, Since: 50, Until: 1049, Out: true}, api.OK},
		{api.Outlier{Times: 999}, slow, 50, api.Outlier{Times: 1000, Since: 50, Until: 1050, Out: true}, api.OK},
		{api.Outlier{Times: 1000}, slow, 50, api.Outlier{Times: 1000, Since: 50, Until: 1050, Out: true}, api.OK},
		{api.Outlier{}, one, 7, api.Outlier{Times: 1, Since: 7, Until: 8, Out: true}, api.OK},
		{api.Outlier{Times: 1}, one, 7, api.Outlier{Times: 2, Since: 7, Until: 8, Out: true}, api.OK},
		{api.Outlier{Times: 1000}, most, mostTick, api.Outlier{Times: 1000, Since: mostTick, Until: mostTick + mostTicks, Out: true}, api.OK},

		// The old Since and Until are nothing to it, and it need not be ripe.
		{api.Outlier{Since: mostUntil, Until: mostUntil}, s, 3, api.Outlier{Times: 1, Since: 3, Until: 13, Out: true}, api.OK},
		{api.Outlier{Good: 100}, s, 3, api.Outlier{Times: 1, Since: 3, Until: 13, Out: true}, api.OK},

		// One that is out can't be put out, be its Until long over.
		{api.Outlier{Out: true}, s, 50, api.Outlier{}, api.ErrState},
		{api.Outlier{Row: 9, Bad: 9, Times: 2, Since: 3, Until: 4, Out: true}, s, 50, api.Outlier{}, api.ErrState},
		{api.Outlier{Until: mostUntil, Out: true}, s, 50, api.Outlier{}, api.ErrState},
	} {
		if out, e := outlier.Eject(c.o, c.s, c.tick); out != c.want || e != c.wrong {
			t.Errorf("P16.2: Eject(%v, %v, %d): %v %d, want %v %d", c.o, c.s, c.tick, out, e, c.want, c.wrong)
		}
	}
}

func TestTick(t *testing.T) {
	_, s, _ := ordinary()
	out := api.Outlier{Row: 1, Good: 2, Bad: 3, Times: 4, Since: 10, Until: 20, Out: true}
	in := out
	in.Out = false
	for _, c := range []struct {
		o    api.Outlier
		tick int
		want api.Outlier
	}{
		{out, 0, out}, {out, 19, out}, {out, 20, in}, {out, 21, in}, {out, mostTick, in},
		{in, 0, in}, {in, 19, in}, {in, 20, in}, {in, 21, in},
		{api.Outlier{Out: true}, 0, api.Outlier{}},
		{api.Outlier{Until: mostTick, Out: true}, mostTick - 1, api.Outlier{Until: mostTick, Out: true}},
		{api.Outlier{Until: mostTick, Out: true}, mostTick, api.Outlier{Until: mostTick}},
		{api.Outlier{Until: mostTick + 1, Out: true}, mostTick, api.Outlier{Until: mostTick + 1, Out: true}},
		{api.Outlier{Since: mostUntil, Until: 5, Out: true}, 5, api.Outlier{Since: mostUntil, Until: 5}},
		{api.Outlier{Times: 1000, Since: 5, Until: mostUntil, Out: true}, mostTick, api.Outlier{Times: 1000, Since: 5, Until: mostUntil, Out: true}},
	} {
		if got, e := outlier.Tick(c.o, s, c.tick); got != c.want || e != api.OK {
			t.Errorf("P16.2: Tick(%v, .., %d): %v %d, want %v", c.o, c.tick, got, e, c.want)
		}
	}
}

func TestRoom(t *testing.T) {
	_, s, _ := ordinary()
	for _, c := range []struct {
		percent, n, out, want int
	}{
		{50, 5, 1, 1}, {50, 5, 0, 2}, {50, 5, 2, 0}, {50, 5, 3, 0}, {50, 5, 5, 0},
		{0, 0, 0, 0}, {0, 32, 0, 0}, {0, 32, 32, 0}, {100, 0, 0, 0}, {100, 32, 0, 32}, {100, 32, 31, 1}, {100, 32, 32, 0},
		{99, 32, 0, 31}, {1, 32, 0, 0}, {3, 32, 0, 0}, {4, 32, 0, 1}, {33, 3, 0, 0}, {34, 3, 0, 1}, {66, 3, 1, 0}, {67, 3, 1, 1},
		{100, 1, 0, 1}, {99, 1, 0, 0}, {10, 10, 0, 1}, {10, 9, 0, 0}, {10, 19, 1, 0}, {10, 20, 1, 1},
	} {
		s.Percent = c.percent
		if n, e := outlier.Room(s, c.n, c.out); n != c.want || e != api.OK {
			t.Errorf("P16.2: Room(%d percent, %d, %d): %d %d, want %d", c.percent, c.n, c.out, n, e, c.want)
		}
	}
}

func TestPanics(t *testing.T) {
	_, s, _ := ordinary()
	for _, c := range []struct {
		panic, n, healthy int
		want              bool
	}{
		{50, 4, 2, false}, {50, 4, 1, true}, {50, 5, 2, true}, {50, 5, 3, false}, {51, 4, 2, true},
		{0, 0, 0, false}, {100, 0, 0, false}, {0, 32, 0, false}, {0, 32, 32, false}, {1, 32, 0, true}, {1, 32, 1, false},
		{100, 32, 31, true}, {100, 32, 32, false}, {100, 1, 0, true}, {100, 1, 1, false}, {96, 32, 31, false}, {97, 32, 31, true},
		{33, 3, 1, false}, {34, 3, 1, true}, {66, 3, 2, false}, {67, 3, 2, true},
	} {
		s.Panic = c.panic
		if is, e := outlier.Panics(s, c.n, c.healthy); is != c.want || e != api.OK {
			t.Errorf("P16.2: Panics(%d percent, %d, %d): %t %d, want %t", c.panic, c.n, c.healthy, is, e, c.want)
		}
	}
}

// TestAllCounts: each share of each number of backends, and counts next to those that may be.
func TestAllCounts(t *testing.T) {
	_, s, _ := ordinary()
	for share := -1; share <= mostPercent+1; share++ {
		s.Percent, s.Panic = share, share
		for n := -2; n <= mostBackends+2; n++ {
			for part := -2; part <= n+2; part++ {
				agreeOn(t, s, n, part)
			}
		}
	}
}

// TestCountErrors: each of n and the part out of its range, by itself or with settings that may not be.
func TestCountErrors(t *testing.T) {
	_, s, _ := ordinary()
	wrong := [][2]int{{-1, 0}, {-1, -1}, {mostBackends + 1, 0}, {mostBackends + 1, mostBackends + 1}, {5, -1}, {5, 6}, {0, 1}, {0, -1}, {mostBackends, mostBackends + 1}}
	for _, n := range far {
		wrong = append(wrong, [2]int{n, 0}, [2]int{n, n}, [2]int{5, n}, [2]int{0, n})
	}
	for _, c := range wrong {
		for _, set := range []api.OutlierSet{s, {}} {
			if room, e := outlier.Room(set, c[0], c[1]); room != 0 || e != api.ErrRange {
				t.Errorf("P16.2: Room(%v, %d, %d): %d %d, want 0 and %d", set, c[0], c[1], room, e, api.ErrRange)
			}
			if is, e := outlier.Panics(set, c[0], c[1]); is || e != api.ErrRange {
				t.Errorf("P16.2: Panics(%v, %d, %d): %t %d, want false and %d", set, c[0], c[1], is, e, api.ErrRange)
			}
		}
	}
	for _, set := range []api.OutlierSet{{}, {Row: 1, Mille: 1, Least: 1, Base: 2, Most: 1, Percent: 50, Panic: 50}} {
		if room, e := outlier.Room(set, 4, 1); room != 0 || e != api.ErrRange {
			t.Errorf("P16.2: Room(%v, 4, 1): %d %d, want 0 and %d", set, room, e, api.ErrRange)
		}
		if is, e := outlier.Panics(set, 4, 1); is || e != api.ErrRange {
			t.Errorf("P16.2: Panics(%v, 4, 1): %t %d, want false and %d", set, is, e, api.ErrRange)
		}
	}
}

// TestLongerEachTime: one that is put out again and again is out for Base longer each time, up to Most, and comes back just then.
func TestLongerEachTime(t *testing.T) {
	for _, c := range []struct {
		base, most, steady int
	}{
		{1, 1, 1}, {1, 2, 2}, {1, 1000, 1000}, {1, 999, 999}, {1, 1001, 1000}, {1, mostTicks, 1000}, {3, 5, 5}, {10, 300, 300},
		{1048, mostTicks, 1048000}, {1049, mostTicks, mostTicks}, {mostTicks, mostTicks, mostTicks}, {mostTicks / 2, mostTicks, mostTicks},
	} {
		_, s, tick := ordinary()
		s.Base, s.Most = c.base, c.most
		var o api.Outlier
		long := 0
		for i := range 1003 {
			if tick > mostTick/2 {
				tick %= 1000
			}
			out, e := outlier.Eject(o, s, tick)
			if e != api.OK || !out.Out || out.Since != tick || out.Times != min(i+1, mostTimes) {
				t.Fatalf("P16.3: with Base %d and Most %d, time %d: %v %d", c.base, c.most, i+1, out, e)
			}
			next := out.Until - out.Since
			if next != min(long+c.base, c.steady) {
				t.Fatalf("P16.3: with Base %d and Most %d, time %d: out for %d, and for %d ahead of it", c.base, c.most, i+1, next, long)
			}
			long = next
			if still, e := outlier.Tick(out, s, out.Until-1); still != out || e != api.OK {
				t.Fatalf("P16.3: with Base %d and Most %d, time %d: %v %d, but it is out for longer", c.base, c.most, i+1, still, e)
			}
			o, e = outlier.Tick(out, s, out.Until)
			if o.Out || e != api.OK {
				t.Fatalf("P16.3: with Base %d and Most %d, time %d: %v %d, but it is no longer out", c.base, c.most, i+1, o, e)
			}
			tick = out.Until + i%3
		}
		if long != c.steady {
			t.Errorf("P16.3: with Base %d and Most %d: out for %d in the end, want %d", c.base, c.most, long, c.steady)
		}
	}
}

// TestInAndOut: of one that is put out whenever it is ripe, ends of any kind bring nothing that may not be, and each time is as long as the last one or longer.
func TestInAndOut(t *testing.T) {
	r := rand.New(rand.NewSource(32))
	times := 0
	for range 200 {
		s := api.OutlierSet{Row: 1 + r.Intn(4), Mille: 1 + r.Intn(1000), Least: 1 + r.Intn(6), Base: 1 + r.Intn(4), Percent: 50}
		s.Most = s.Base + r.Intn(12)
		var o api.Outlier
		long := 0
		for tick := range 300 {
			o, _ = outlier.Record(o, s, tick, anyEnds(r, r.Intn(3))...)
			if ripe, _ := outlier.Ripe(o, s, tick); ripe {
				out, e := outlier.Eject(o, s, tick)
				next := out.Until - tick
				if e != api.OK || next < long || next == long && long < s.Most || next > s.Most {
					t.Fatalf("P16.3: Eject(%v, %v, %d): %v %d, and ahead of it for %d", o, s, tick, out, e, long)
				}
				if again, e := outlier.Eject(out, s, tick); again != (api.Outlier{}) || e != api.ErrState {
					t.Fatalf("P16.2: Eject(%v, %v, %d): %v %d, but it is out", out, s, tick, again, e)
				}
				o, long = out, next
				times++
			}
			o, _ = outlier.Tick(o, s, tick)
			if e := outlier.Check(o, s, tick); e != api.OK || o.Out && o.Until <= tick {
				t.Fatalf("P16.2: at tick %d %v came to be", tick, o)
			}
			agree(t, o, s, tick, true, false)
		}
	}
	if times < 1000 {
		t.Errorf("P16.3: only %d times was one put out", times)
	}
}

// TestAllSmall: every call, of all that is known and all settings of small numbers.
func TestAllSmall(t *testing.T) {
	l := ends("xxg")
	for n := range 4 * 4 * 4 * 3 * 3 * 2 {
		o := api.Outlier{Row: n & 3, Good: n >> 2 & 3, Bad: n >> 4 & 3, Times: n >> 6 % 3, Until: n >> 6 / 3 % 3, Out: n>>6 >= 9}
		for m := range 3 * 3 * 3 * 3 * 4 {
			s := api.OutlierSet{Row: m % 3, Mille: m / 3 % 3 * 400, Least: m / 9 % 3, Base: m / 27 % 3, Most: m / 81}
			for tick := range 3 {
				agree(t, o, s, tick, l[:m%4]...)
			}
		}
	}
}

// anyNumber is mostly one of a range, near its ends more often than not, and now and then far from it.
func anyNumber(r *rand.Rand, least, most int) int {
	switch r.Intn(300) {
	case 0:
		return least - 1
	case 1:
		return most + 1
	case 2:
		return far[r.Intn(len(far))]
	}
	near := min(5, most-least+1)
	switch r.Intn(3) {
	case 0:
		return least + r.Intn(near)
	case 1:
		return most - r.Intn(near)
	}
	return least + r.Intn(most-least+1)
}

func anyEnds(r *rand.Rand, n int) []bool {
	l := make([]bool, n)
	often := 1 + r.Intn(5)
	for i := range l {
		l[i] = r.Intn(6) < often
	}
	return l
}

func anySet(r *rand.Rand) api.OutlierSet {
	s := api.OutlierSet{
		Row: anyNumber(r, 1, mostSet), Mille: anyNumber(r, 1, mostSet), Least: anyNumber(r, 1, mostSet),
		Base: anyNumber(r, 1, mostTicks), Percent: anyNumber(r, 0, mostPercent), Panic: anyNumber(r, 0, mostPercent),
	}
	s.Most = anyNumber(r, min(max(s.Base, 1), mostTicks), mostTicks)
	return s
}

func TestAllOfAny(t *testing.T) {
	r := rand.New(rand.NewSource(33))
	times, ripe := map[api.Errno]int{}, 0
	for range 200000 {
		s := anySet(r)
		o := api.Outlier{
			Row: anyNumber(r, 0, mostCount), Good: anyNumber(r, 0, mostCount), Bad: anyNumber(r, 0, mostCount), Times: anyNumber(r, 0, mostTimes),
			Since: anyNumber(r, 0, mostUntil), Until: anyNumber(r, 0, mostUntil), Out: r.Intn(3) == 0,
		}
		tick := anyNumber(r, 0, mostTick)
		switch r.Intn(4) {
		case 0:
			s.Row = o.Row + r.Intn(3) - 1
		case 1:
			o.Row, o.Good, o.Bad = 0, r.Intn(600), r.Intn(600)
			s.Least = o.Good + o.Bad + r.Intn(5) - 3
			s.Mille = 1000*o.Bad/max(o.Good+o.Bad, 1) + r.Intn(3) - 1
		case 2:
			o.Times = s.Most/max(s.Base, 1) + r.Intn(4) - 2
		}
		if r.Intn(2) == 0 {
			o.Until = tick + r.Intn(3) - 1
		}
		times[slowCheck(o, s, tick)]++
		if is, _ := slowRipe(o, s, tick); is {
			ripe++
		}
		agree(t, o, s, tick, anyEnds(r, r.Intn(6))...)
		agreeOn(t, s, anyNumber(r, 0, mostBackends), anyNumber(r, 0, mostBackends))
	}
	if times[api.OK] < 1000 || times[api.ErrRange] < 1000 || times[api.ErrState] < 1000 {
		t.Errorf("P16.1: what Check answered was too much of a kind: %v", times)
	}
	if ripe < 1000 || times[api.OK]-ripe < 1000 {
		t.Errorf("P16.1: of %d that may be %d were ripe", times[api.OK], ripe)
	}
}

// TestNoneIsEmpty: nil and empty lists are one, and the rest is asked even so.
func TestNoneIsEmpty(t *testing.T) {
	o, s, tick := ordinary()
	for _, l := range [][]bool{nil, {}} {
		if out, e := outlier.Record(o, s, tick, l...); out != o || e != api.OK {
			t.Errorf("P16.1: Record of no ends: %v %d, want %v", out, e, o)
		}
		if out, e := outlier.Record(o, api.OutlierSet{}, tick, l...); out != (api.Outlier{}) || e != api.ErrRange {
			t.Errorf("P16.1: Record of no ends and no settings: %v %d, want %d", out, e, api.ErrRange)
		}
		if out, e := outlier.Record(api.Outlier{Row: -1}, s, tick, l...); out != (api.Outlier{}) || e != api.ErrState {
			t.Errorf("P16.1: Record of no ends of what may not be: %v %d, want %d", out, e, api.ErrState)
		}
	}
}

// TestNotChanged: what is handed in stays, with the room behind it.
func TestNotChanged(t *testing.T) {
	o, s, tick := ordinary()
	l := ends("gxxgxgggxxxxg")
	kept := slices.Clone(l)
	for n := range len(l) + 1 {
		outlier.Record(o, s, tick, l[:n]...)
		outlier.Record(o, api.OutlierSet{}, tick, l[:n]...)
	}
	if !slices.Equal(l, kept) {
		t.Errorf("P16.4: what is handed in is changed: %t", l)
	}
}

// TestNotKept: calls know nothing of each other, nor of ends that are changed behind a call.
func TestNotKept(t *testing.T) {
	o, s, tick := ordinary()
	l := ends("gxxgxgggxxxxg")
	want, _ := outlier.Record(o, s, tick, l...)
	more := slices.Clone(l)
	clear(l)
	other := api.OutlierSet{Row: 1, Mille: 1, Least: 1, Base: 1, Most: 1, Percent: 100, Panic: 100}
	outlier.Record(api.Outlier{}, other, 0, l...)
	outlier.Eject(api.Outlier{Row: 9}, other, 5)
	outlier.Eject(api.Outlier{Out: true}, other, 5)
	agree(t, o, s, tick, more...)
	agree(t, o, api.OutlierSet{}, tick, more...)
	agree(t, o, other, tick, more...)
	agree(t, o, s, tick, more...)
	agreeOn(t, other, 32, 3)
	agreeOn(t, s, 32, 3)
	if again, e := outlier.Record(o, s, tick, more...); again != want || e != api.OK {
		t.Errorf("P16.4: Record hangs on the calls ahead: %v %d, want %v", again, e, want)
	}
}

// TestAtOnce: goroutines that call at the same time are told what one is told.
func TestAtOnce(t *testing.T) {
	o, s, tick := ordinary()
	l := anyEnds(rand.New(rand.NewSource(34)), 100)
	type told struct {
		recorded, ejected, ticked api.Outlier
		ripe, panics              bool
		room                      int
		wrong                     [6]api.Errno
	}
	ask := func() told {
		var x told
		x.recorded, x.wrong[0] = outlier.Record(o, s, tick, l...)
		x.ripe, x.wrong[1] = outlier.Ripe(x.recorded, s, tick)
		x.ejected, x.wrong[2] = outlier.Eject(x.recorded, s, tick)
		x.ticked, x.wrong[3] = outlier.Tick(x.ejected, s, tick+90)
		x.room, x.wrong[4] = outlier.Room(s, 30, 5)
		x.panics, x.wrong[5] = outlier.Panics(s, 30, 8)
		return x
	}
	want := ask()
	got := make([]told, 16)
	var all sync.WaitGroup
	for i := range got {
		all.Go(func() {
			for range 50 {
				got[i] = ask()
			}
		})
	}
	all.Wait()
	for i, x := range got {
		if x != want {
			t.Errorf("P16.4: goroutine %d is told %v, want %v", i, x, want)
		}
	}
}

// FuzzOutlier holds P16.1 to P16.3 for what is known, settings, counts and ends of any kind; an octet is eight ends.
func FuzzOutlier(f *testing.F) {
	f.Add(2, 7, 3, 4, 20, 60, false, 5, 400, 8, 10, 300, 40, 30, 70, 5, 1, []byte{0, 255, 12})
	f.Add(0, 0, 0, 0, 0, 0, true, 1, 1, 1, 1, 1, 0, 0, 0, 0, 0, []byte{})
	f.Add(mostCount, mostCount, mostCount, mostTimes, mostUntil, mostUntil, false, mostSet, mostSet, mostSet, mostTicks, mostTicks, mostPercent, mostPercent, mostTick, mostBackends, mostBackends, []byte{1})
	f.Add(-1, math.MaxInt, math.MinInt, 1001, -1, -1, true, 0, 1001, 0, 2, 1, 101, -1, -1, 33, 34, []byte{9})
	f.Fuzz(func(t *testing.T, row, good, bad, times, since, until int, out bool, setRow, mille, least, base, most, share, few, tick, n, part int, octets []byte) {
		s := api.OutlierSet{Row: setRow, Mille: mille, Least: least, Base: base, Most: most, Percent: share, Panic: few}
		o := api.Outlier{Row: row, Good: good, Bad: bad, Times: times, Since: since, Until: until, Out: out}
		var l []bool
		for _, c := range octets {
			for bit := range 8 {
				l = append(l, c>>bit&1 == 1)
			}
		}
		agree(t, o, s, tick, l...)
		agreeOn(t, s, n, part)
		first, e := outlier.Eject(o, s, tick)
		if e != api.OK {
			return
		}
		in, _ := outlier.Tick(first, s, mostTick)
		second, e := outlier.Eject(in, s, tick)
		if first.Until <= mostTick && (e != api.OK || second.Until < first.Until || first.Times < mostTimes && second.Until == first.Until && first.Until-tick < most) {
			t.Fatalf("P16.3: Eject(%v, %v, %d): %v %d, and ahead of it %v", in, s, tick, second, e, first)
		}
	})
}
