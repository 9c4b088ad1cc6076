package breaker_test

import (
	"math"
	"math/rand"
	"slices"
	"strconv"
	"strings"
	"sync"
	"testing"

	"waybill/api"
	"waybill/breaker"
)

// The document's numbers, written out.
const (
	mostFails  = 1000
	mostOpen   = 1048576
	mostProbes = 64
	mostCount  = 1000
	mostUntil  = 1073741824
	mostTick   = 536870912
	mostActs   = 512
)

// far are numbers that nothing here may be.
var far = []int{-1, -2, -mostCount, math.MinInt32, mostUntil + 1, math.MaxInt32, 1 << 32, 1<<32 + 1, math.MaxInt - mostOpen, math.MaxInt, math.MinInt, math.MinInt + mostOpen}

// span is a number and the least and the most that it may be.
type span struct {
	n, least, most int
}

func anyOut(l ...span) bool {
	for _, x := range l {
		if x.n < x.least {
			return true
		}
		if x.n > x.most {
			return true
		}
	}
	return false
}

func slowSet(s api.BreakerSet) bool {
	return !anyOut(span{s.Fails, 1, mostFails}, span{s.Open, 1, mostOpen}, span{s.Probes, 1, mostProbes})
}

// slowCheck goes by the words of the chapter.
func slowCheck(b api.Breaker, s api.BreakerSet, tick int) api.Errno {
	if !slowSet(s) {
		return api.ErrRange
	}
	if anyOut(span{tick, 0, mostTick}) {
		return api.ErrRange
	}
	if anyOut(span{b.Mode, 0, 2}, span{b.Fails, 0, mostCount}, span{b.Until, 0, mostUntil}, span{b.Probes, 0, mostCount}, span{b.Wins, 0, mostCount}) {
		return api.ErrState
	}
	return api.OK
}

func slowTick(b api.Breaker, s api.BreakerSet, tick int) (api.Breaker, api.Errno) {
	if e := slowCheck(b, s, tick); e != api.OK {
		return api.Breaker{}, e
	}
	if b.Mode != 1 || b.Until > tick {
		return b, api.OK
	}
	return api.Breaker{Mode: 2, Fails: b.Fails, Until: b.Until, Probes: b.Probes}, api.OK
}

func slowAllows(b api.Breaker, s api.BreakerSet, tick int) (bool, api.Errno) {
	if e := slowCheck(b, s, tick); e != api.OK {
		return false, e
	}
	switch b.Mode {
	case 0:
		return true, api.OK
	case 1:
		return false, api.OK
	}
	return s.Probes-b.Probes > 0, api.OK
}

func slowBegin(b api.Breaker, s api.BreakerSet, tick int) (api.Breaker, bool, api.Errno) {
	may, e := slowAllows(b, s, tick)
	if e != api.OK {
		return api.Breaker{}, false, e
	}
	if !may {
		return api.Breaker{}, false, api.ErrState
	}
	if b.Mode == 0 {
		return b, false, api.OK
	}
	return api.Breaker{Mode: 2, Fails: b.Fails, Until: b.Until, Probes: b.Probes + 1, Wins: b.Wins}, true, api.OK
}

// slowEnd writes out each breaker that may come of an end.
func slowEnd(b api.Breaker, s api.BreakerSet, tick int, probe bool, good bool) (api.Breaker, api.Errno) {
	if e := slowCheck(b, s, tick); e != api.OK {
		return api.Breaker{}, e
	}
	left := b.Probes
	if probe {
		left = max(left-1, 0)
	}
	same := api.Breaker{Mode: b.Mode, Fails: b.Fails, Until: b.Until, Probes: left, Wins: b.Wins}
	shut := b.Mode == 0
	weighs := b.Mode == 2 && probe
	switch {
	case shut && good:
		return api.Breaker{Until: b.Until, Probes: left, Wins: b.Wins}, api.OK
	case shut && b.Fails+1 < s.Fails:
		same.Fails = b.Fails + 1
		return same, api.OK
	case shut:
		return api.Breaker{Mode: 1, Until: tick + s.Open, Probes: left, Wins: b.Wins}, api.OK
	case weighs && !good:
		return api.Breaker{Mode: 1, Fails: b.Fails, Until: tick + s.Open, Probes: left}, api.OK
	case weighs && b.Wins+1 < s.Probes:
		same.Wins = b.Wins + 1
		return same, api.OK
	case weighs:
		return api.Breaker{Until: b.Until, Probes: left}, api.OK
	}
	return same, api.OK
}

func slowMayRun(s api.BreakerSet, l []api.BreakerAct) api.Errno {
	for _, a := range l {
		if a.What != 1 && a.What != 2 && a.What != 3 {
			return api.ErrKind
		}
	}
	if len(l) > mostActs {
		return api.ErrCount
	}
	if !slowSet(s) {
		return api.ErrRange
	}
	for i, a := range l {
		if anyOut(span{a.Tick, 0, mostTick}) || i > 0 && a.Tick < l[i-1].Tick {
			return api.ErrRange
		}
	}
	return api.OK
}

// slowRun is the slow forms, one after the other.
func slowRun(s api.BreakerSet, l []api.BreakerAct) (api.Breaker, []int, api.Errno) {
	if e := slowMayRun(s, l); e != api.OK {
		return api.Breaker{}, nil, e
	}
	var b api.Breaker
	told := make([]int, len(l))
	for i, a := range l {
		switch a.What {
		case 1:
			b, _ = slowTick(b, s, a.Tick)
		case 2:
			next, probe, e := slowBegin(b, s, a.Tick)
			switch {
			case e != api.OK:
				told[i] = 2
			case probe:
				b, told[i] = next, 1
			}
		case 3:
			b, _ = slowEnd(b, s, a.Tick, a.Probe, a.Good)
		}
	}
	return b, told, api.OK
}

// agree holds all calls but Run against their slow forms.
func agree(t *testing.T, b api.Breaker, s api.BreakerSet, tick int) {
	t.Helper()
	want, wrong := slowTick(b, s, tick)
	if e := breaker.Check(b, s, tick); e != wrong {
		t.Fatalf("P15.1: Check(%v, %v, %d): %d, want %d", b, s, tick, e, wrong)
	}
	if out, e := breaker.Tick(b, s, tick); out != want || e != wrong {
		t.Fatalf("P15.1: Tick(%v, %v, %d): %v %d, want %v %d", b, s, tick, out, e, want, wrong)
	}
	is, wrong := slowAllows(b, s, tick)
	if may, e := breaker.Allows(b, s, tick); may != is || e != wrong {
		t.Fatalf("P15.1: Allows(%v, %v, %d): %t %d, want %t %d", b, s, tick, may, e, is, wrong)
	}
	want, is, wrong = slowBegin(b, s, tick)
	if out, probe, e := breaker.Begin(b, s, tick); out != want || probe != is || e != wrong {
		t.Fatalf("P15.2: Begin(%v, %v, %d): %v %t %d, want %v %t %d", b, s, tick, out, probe, e, want, is, wrong)
	}
	for _, probe := range []bool{false, true} {
		for _, good := range []bool{false, true} {
			want, wrong = slowEnd(b, s, tick, probe, good)
			if out, e := breaker.End(b, s, tick, probe, good); out != want || e != wrong {
				t.Fatalf("P15.2: End(%v, %v, %d, %t, %t): %v %d, want %v %d", b, s, tick, probe, good, out, e, want, wrong)
			}
		}
	}
}

// acts are told by words: t Tick, b Begin, g and x a good and a bad End, G and X those of a probe, each with its tick.
func acts(text string) []api.BreakerAct {
	var l []api.BreakerAct
	for _, word := range strings.Fields(text) {
		tick, err := strconv.Atoi(word[1:])
		if err != nil {
			panic(err)
		}
		a := api.BreakerAct{Tick: tick}
		switch word[0] {
		case 't':
			a.What = 1
		case 'b':
			a.What = 2
		default:
			a.What = 3
			a.Probe = word[0] == 'G' || word[0] == 'X'
			a.Good = word[0] == 'G' || word[0] == 'g'
		}
		l = append(l, a)
	}
	return l
}

func digits(l []int) string {
	var b strings.Builder
	for _, n := range l {
		b.WriteString(strconv.Itoa(n))
	}
	return b.String()
}

// ordinary are a breaker, settings and a tick that may be.
func ordinary() (api.Breaker, api.BreakerSet, int) {
	return api.Breaker{Mode: 2, Fails: 3, Until: 20, Probes: 1, Wins: 1}, api.BreakerSet{Fails: 5, Open: 10, Probes: 3}, 25
}

// TestCheckEdges: each number at the ends of its range, and next to them.
func TestCheckEdges(t *testing.T) {
	var b api.Breaker
	var s api.BreakerSet
	var tick int
	for _, c := range []struct {
		name        string
		number      *int
		least, most int
		wrong       api.Errno
	}{
		{"s.Fails", &s.Fails, 1, mostFails, api.ErrRange},
		{"s.Open", &s.Open, 1, mostOpen, api.ErrRange},
		{"s.Probes", &s.Probes, 1, mostProbes, api.ErrRange},
		{"tick", &tick, 0, mostTick, api.ErrRange},
		{"b.Mode", &b.Mode, 0, 2, api.ErrState},
		{"b.Fails", &b.Fails, 0, mostCount, api.ErrState},
		{"b.Until", &b.Until, 0, mostUntil, api.ErrState},
		{"b.Probes", &b.Probes, 0, mostCount, api.ErrState},
		{"b.Wins", &b.Wins, 0, mostCount, api.ErrState},
	} {
		ask := func(n int, want api.Errno) {
			b, s, tick = ordinary()
			*c.number = n
			if e := breaker.Check(b, s, tick); e != want {
				t.Errorf("P15.1: Check with %s %d: %d, want %d", c.name, n, e, want)
			}
			agree(t, b, s, tick)
		}
		for _, n := range []int{c.least, c.most, (c.least + c.most) / 2} {
			ask(n, api.OK)
		}
		for _, n := range append([]int{c.least - 1, c.most + 1}, far...) {
			ask(n, c.wrong)
		}
	}
}

// TestErrorsInOrder: settings and tick go ahead of the breaker, and beside an error all is zero.
func TestErrorsInOrder(t *testing.T) {
	good, set, now := ordinary()
	bad := api.Breaker{Mode: 3, Fails: -1, Until: -1, Probes: -1, Wins: -1}
	for _, c := range []struct {
		b     api.Breaker
		s     api.BreakerSet
		tick  int
		wrong api.Errno
	}{
		{bad, api.BreakerSet{}, -1, api.ErrRange},
		{bad, api.BreakerSet{}, now, api.ErrRange},
		{bad, set, -1, api.ErrRange},
		{bad, set, mostTick + 1, api.ErrRange},
		{bad, set, now, api.ErrState},
		{good, api.BreakerSet{}, now, api.ErrRange},
		{good, set, mostTick + 1, api.ErrRange},
		{good, set, now, api.OK},
	} {
		agree(t, c.b, c.s, c.tick)
		if e := breaker.Check(c.b, c.s, c.tick); e != c.wrong {
			t.Errorf("P15.1: Check(%v, %v, %d): %d, want %d", c.b, c.s, c.tick, e, c.wrong)
		}
		if c.wrong == api.OK {
			continue
		}
		ticked, e := breaker.Tick(c.b, c.s, c.tick)
		if ticked != (api.Breaker{}) || e != c.wrong {
			t.Errorf("P15.1: Tick(%v, %v, %d): %v %d, want none and %d", c.b, c.s, c.tick, ticked, e, c.wrong)
		}
		if may, e := breaker.Allows(c.b, c.s, c.tick); may || e != c.wrong {
			t.Errorf("P15.1: Allows(%v, %v, %d): %t %d, want false and %d", c.b, c.s, c.tick, may, e, c.wrong)
		}
		if began, probe, e := breaker.Begin(c.b, c.s, c.tick); began != (api.Breaker{}) || probe || e != c.wrong {
			t.Errorf("P15.2: Begin(%v, %v, %d): %v %t %d, want none and %d", c.b, c.s, c.tick, began, probe, e, c.wrong)
		}
		if ended, e := breaker.End(c.b, c.s, c.tick, true, false); ended != (api.Breaker{}) || e != c.wrong {
			t.Errorf("P15.2: End(%v, %v, %d): %v %d, want none and %d", c.b, c.s, c.tick, ended, e, c.wrong)
		}
	}
}

func TestTick(t *testing.T) {
	_, s, _ := ordinary()
	for _, c := range []struct {
		b    api.Breaker
		tick int
		want api.Breaker
	}{
		{api.Breaker{Mode: 1, Fails: 3, Until: 20, Probes: 2, Wins: 4}, 19, api.Breaker{Mode: 1, Fails: 3, Until: 20, Probes: 2, Wins: 4}},
		{api.Breaker{Mode: 1, Fails: 3, Until: 20, Probes: 2, Wins: 4}, 20, api.Breaker{Mode: 2, Fails: 3, Until: 20, Probes: 2}},
		{api.Breaker{Mode: 1, Fails: 3, Until: 20, Probes: 2, Wins: 4}, 21, api.Breaker{Mode: 2, Fails: 3, Until: 20, Probes: 2}},
		{api.Breaker{Mode: 1}, 0, api.Breaker{Mode: 2}},
		{api.Breaker{Mode: 1, Until: mostTick}, mostTick, api.Breaker{Mode: 2, Until: mostTick}},
		{api.Breaker{Mode: 1, Until: mostTick + 1}, mostTick, api.Breaker{Mode: 1, Until: mostTick + 1}},
		{api.Breaker{Mode: 1, Until: mostUntil, Wins: 1}, mostTick, api.Breaker{Mode: 1, Until: mostUntil, Wins: 1}},
		{api.Breaker{Fails: 3, Until: 20, Probes: 2, Wins: 4}, 50, api.Breaker{Fails: 3, Until: 20, Probes: 2, Wins: 4}},
		{api.Breaker{Mode: 2, Fails: 3, Until: 20, Probes: 2, Wins: 4}, 50, api.Breaker{Mode: 2, Fails: 3, Until: 20, Probes: 2, Wins: 4}},
	} {
		if out, e := breaker.Tick(c.b, s, c.tick); out != c.want || e != api.OK {
			t.Errorf("P15.1: Tick(%v, .., %d): %v %d, want %v", c.b, c.tick, out, e, c.want)
		}
	}
}

// TestAllows: an open one allows nothing till Tick has made it half open, be its Until long over.
func TestAllows(t *testing.T) {
	for _, c := range []struct {
		b      api.Breaker
		probes int
		want   bool
	}{
		{api.Breaker{}, 1, true},
		{api.Breaker{Fails: 1000, Until: mostUntil, Probes: 1000, Wins: 1000}, 1, true},
		{api.Breaker{Mode: 1}, 64, false},
		{api.Breaker{Mode: 1, Until: 5}, 64, false},
		{api.Breaker{Mode: 1, Until: mostUntil}, 64, false},
		{api.Breaker{Mode: 2}, 1, true},
		{api.Breaker{Mode: 2, Until: mostUntil, Fails: 1000, Wins: 1000}, 1, true},
		{api.Breaker{Mode: 2, Probes: 1}, 1, false},
		{api.Breaker{Mode: 2, Probes: 1}, 2, true},
		{api.Breaker{Mode: 2, Probes: 2}, 2, false},
		{api.Breaker{Mode: 2, Probes: 3}, 2, false},
		{api.Breaker{Mode: 2, Probes: 63}, 64, true},
		{api.Breaker{Mode: 2, Probes: 64}, 64, false},
		{api.Breaker{Mode: 2, Probes: 1000}, 64, false},
	} {
		s := api.BreakerSet{Fails: 1, Open: 1, Probes: c.probes}
		if may, e := breaker.Allows(c.b, s, 9); may != c.want || e != api.OK {
			t.Errorf("P15.1: Allows(%v, %v, 9): %t %d, want %t", c.b, s, may, e, c.want)
		}
		_, probe, e := breaker.Begin(c.b, s, 9)
		if (e == api.OK) != c.want || probe != (c.want && c.b.Mode == 2) || !c.want && e != api.ErrState {
			t.Errorf("P15.2: Begin(%v, %v, 9): %t %d, but allowed is %t", c.b, s, probe, e, c.want)
		}
	}
}

func TestBegin(t *testing.T) {
	_, s, _ := ordinary()
	for _, c := range []struct {
		b, want api.Breaker
		probe   bool
		wrong   api.Errno
	}{
		{api.Breaker{}, api.Breaker{}, false, api.OK},
		{api.Breaker{Fails: 4, Until: 90, Probes: 3, Wins: 2}, api.Breaker{Fails: 4, Until: 90, Probes: 3, Wins: 2}, false, api.OK},
		{api.Breaker{Mode: 2, Fails: 4, Until: 90, Wins: 2}, api.Breaker{Mode: 2, Fails: 4, Until: 90, Probes: 1, Wins: 2}, true, api.OK},
		{api.Breaker{Mode: 2, Probes: 2}, api.Breaker{Mode: 2, Probes: 3}, true, api.OK},
		{api.Breaker{Mode: 2, Probes: 3}, api.Breaker{}, false, api.ErrState},
		{api.Breaker{Mode: 2, Fails: 4, Until: 9, Probes: 1000, Wins: 5}, api.Breaker{}, false, api.ErrState},
		{api.Breaker{Mode: 1, Fails: 4, Until: 9, Probes: 1, Wins: 5}, api.Breaker{}, false, api.ErrState},
	} {
		if out, probe, e := breaker.Begin(c.b, s, 30); out != c.want || probe != c.probe || e != c.wrong {
			t.Errorf("P15.2: Begin(%v, %v, 30): %v %t %d, want %v %t %d", c.b, s, out, probe, e, c.want, c.probe, c.wrong)
		}
	}
}

func TestEnd(t *testing.T) {
	one, three := api.BreakerSet{Fails: 1, Open: 5, Probes: 1}, api.BreakerSet{Fails: 3, Open: 10, Probes: 3}
	most := api.BreakerSet{Fails: mostFails, Open: mostOpen, Probes: mostProbes}
	for _, c := range []struct {
		b           api.Breaker
		s           api.BreakerSet
		tick        int
		probe, good bool
		want        api.Breaker
	}{
		// Closed: what ends well forgets what failed, and what fails often enough opens.
		{api.Breaker{}, one, 3, false, false, api.Breaker{Mode: 1, Until: 8}},
		{api.Breaker{}, one, 3, true, false, api.Breaker{Mode: 1, Until: 8}},
		{api.Breaker{}, one, 3, false, true, api.Breaker{}},
		{api.Breaker{Fails: 2, Until: 7, Probes: 2, Wins: 6}, three, 9, false, true, api.Breaker{Until: 7, Probes: 2, Wins: 6}},
		{api.Breaker{Fails: 2, Until: 7, Probes: 2, Wins: 6}, three, 9, true, true, api.Breaker{Until: 7, Probes: 1, Wins: 6}},
		{api.Breaker{Fails: 1, Until: 7, Probes: 2, Wins: 6}, three, 9, false, false, api.Breaker{Fails: 2, Until: 7, Probes: 2, Wins: 6}},
		{api.Breaker{Fails: 1, Until: 7, Probes: 2, Wins: 6}, three, 9, true, false, api.Breaker{Fails: 2, Until: 7, Probes: 1, Wins: 6}},
		{api.Breaker{Fails: 2, Until: 7, Probes: 2, Wins: 6}, three, 9, false, false, api.Breaker{Mode: 1, Until: 19, Probes: 2, Wins: 6}},
		{api.Breaker{Fails: 2, Until: 7, Probes: 2, Wins: 6}, three, 9, true, false, api.Breaker{Mode: 1, Until: 19, Probes: 1, Wins: 6}},
		{api.Breaker{Fails: 3}, three, 9, false, false, api.Breaker{Mode: 1, Until: 19}},
		{api.Breaker{Fails: 1000}, three, 9, false, false, api.Breaker{Mode: 1, Until: 19}},
		{api.Breaker{Fails: 998}, most, mostTick, false, false, api.Breaker{Fails: 999}},
		{api.Breaker{Fails: 999}, most, mostTick, false, false, api.Breaker{Mode: 1, Until: mostTick + mostOpen}},
		{api.Breaker{Fails: 1000}, most, 0, false, false, api.Breaker{Mode: 1, Until: mostOpen}},
		{api.Breaker{Until: mostUntil}, one, 0, false, false, api.Breaker{Mode: 1, Until: 5}},

		// Open: only the probe that came back counts.
		{api.Breaker{Mode: 1, Fails: 2, Until: 7, Probes: 2, Wins: 6}, three, 9, false, true, api.Breaker{Mode: 1, Fails: 2, Until: 7, Probes: 2, Wins: 6}},
		{api.Breaker{Mode: 1, Fails: 2, Until: 7, Probes: 2, Wins: 6}, three, 9, false, false, api.Breaker{Mode: 1, Fails: 2, Until: 7, Probes: 2, Wins: 6}},
		{api.Breaker{Mode: 1, Fails: 2, Until: 7, Probes: 2, Wins: 6}, three, 9, true, true, api.Breaker{Mode: 1, Fails: 2, Until: 7, Probes: 1, Wins: 6}},
		{api.Breaker{Mode: 1, Fails: 2, Until: 7, Probes: 2, Wins: 6}, three, 9, true, false, api.Breaker{Mode: 1, Fails: 2, Until: 7, Probes: 1, Wins: 6}},
		{api.Breaker{Mode: 1, Until: 7}, three, 9, true, false, api.Breaker{Mode: 1, Until: 7}},

		// Half open: probes decide, and what is no probe changes nothing.
		{api.Breaker{Mode: 2, Fails: 2, Until: 7, Probes: 2, Wins: 1}, three, 9, false, true, api.Breaker{Mode: 2, Fails: 2, Until: 7, Probes: 2, Wins: 1}},
		{api.Breaker{Mode: 2, Fails: 2, Until: 7, Probes: 2, Wins: 1}, three, 9, false, false, api.Breaker{Mode: 2, Fails: 2, Until: 7, Probes: 2, Wins: 1}},
		{api.Breaker{Mode: 2, Fails: 2, Until: 7, Probes: 2, Wins: 1}, three, 9, true, true, api.Breaker{Mode: 2, Fails: 2, Until: 7, Probes: 1, Wins: 2}},
		{api.Breaker{Mode: 2, Fails: 2, Until: 7, Probes: 2, Wins: 2}, three, 9, true, true, api.Breaker{Until: 7, Probes: 1}},
		{api.Breaker{Mode: 2, Fails: 2, Until: 7, Probes: 2, Wins: 2}, three, 9, true, false, api.Breaker{Mode: 1, Fails: 2, Until: 19, Probes: 1}},
		{api.Breaker{Mode: 2, Fails: 2, Until: 7, Wins: 1}, three, 9, true, true, api.Breaker{Mode: 2, Fails: 2, Until: 7, Wins: 2}},
		{api.Breaker{Mode: 2, Until: 7}, three, 9, true, false, api.Breaker{Mode: 1, Until: 19}},
		{api.Breaker{Mode: 2, Until: 7}, one, 9, true, true, api.Breaker{Until: 7}},
		{api.Breaker{Mode: 2, Wins: 3}, three, 9, true, true, api.Breaker{}},
		{api.Breaker{Mode: 2, Wins: 1000, Probes: 1000}, three, 9, true, true, api.Breaker{Probes: 999}},
		{api.Breaker{Mode: 2, Wins: 62}, most, 9, true, true, api.Breaker{Mode: 2, Wins: 63}},
		{api.Breaker{Mode: 2, Wins: 63}, most, 9, true, true, api.Breaker{}},
		{api.Breaker{Mode: 2, Fails: 1000, Wins: 63}, most, mostTick, true, false, api.Breaker{Mode: 1, Fails: 1000, Until: mostTick + mostOpen}},
	} {
		if out, e := breaker.End(c.b, c.s, c.tick, c.probe, c.good); out != c.want || e != api.OK {
			t.Errorf("P15.2: End(%v, %v, %d, %t, %t): %v %d, want %v", c.b, c.s, c.tick, c.probe, c.good, out, e, c.want)
		}
	}
}

// TestAllSmall: every call, of all breakers and settings of small numbers.
func TestAllSmall(t *testing.T) {
	for mode := -1; mode <= 3; mode++ {
		for n := range 4 * 4 * 4 * 4 {
			b := api.Breaker{Mode: mode, Fails: n & 3, Until: n >> 2 & 3, Probes: n >> 4 & 3, Wins: n >> 6 & 3}
			for m := range 4 * 4 * 4 {
				s := api.BreakerSet{Fails: m & 3, Open: m >> 2 & 3, Probes: m >> 4 & 3}
				for tick := range 4 {
					agree(t, b, s, tick)
				}
			}
		}
	}
}

// anyNumber is mostly one of a range, near its ends more often than not, and now and then far from it.
func anyNumber(r *rand.Rand, least, most int) int {
	switch r.Intn(200) {
	case 0:
		return least - 1
	case 1:
		return most + 1
	case 2:
		return far[r.Intn(len(far))]
	}
	near := min(5, most-least+1)
	switch r.Intn(3) {
	case 0:
		return least + r.Intn(near)
	case 1:
		return most - r.Intn(near)
	}
	return least + r.Intn(most-least+1)
}

func TestAllOfAny(t *testing.T) {
	r := rand.New(rand.NewSource(31))
	times := map[api.Errno]int{}
	for range 200000 {
		b := api.Breaker{Mode: anyNumber(r, 0, 2), Fails: anyNumber(r, 0, mostCount), Until: anyNumber(r, 0, mostUntil), Probes: anyNumber(r, 0, mostCount), Wins: anyNumber(r, 0, mostCount)}
		s := api.BreakerSet{Fails: anyNumber(r, 1, mostFails), Open: anyNumber(r, 1, mostOpen), Probes: anyNumber(r, 1, mostProbes)}
		tick := anyNumber(r, 0, mostTick)
		switch r.Intn(4) {
		case 0:
			s.Fails = b.Fails + r.Intn(3)
		case 1:
			s.Probes = b.Probes + r.Intn(3) - 1
		case 2:
			s.Probes = b.Wins + r.Intn(3)
		}
		if r.Intn(2) == 0 {
			b.Until = tick + r.Intn(3) - 1
		}
		times[slowCheck(b, s, tick)]++
		agree(t, b, s, tick)
	}
	if times[api.OK] < 1000 || times[api.ErrRange] < 1000 || times[api.ErrState] < 1000 {
		t.Errorf("P15.1: what Check answered was too much of a kind: %v", times)
	}
}

// TestRun: what a separate program told by the chapter's words.
func TestRun(t *testing.T) {
	for _, c := range []struct {
		s    api.BreakerSet
		text string
		want api.Breaker
		told string
	}{
		{api.BreakerSet{Fails: 1, Open: 5, Probes: 1}, "", api.Breaker{}, ""},
		{api.BreakerSet{Fails: 1, Open: 5, Probes: 1}, "x3", api.Breaker{Mode: 1, Until: 8}, "0"},
		{api.BreakerSet{Fails: 1, Open: 5, Probes: 1}, "b0 x3 b4 t7 b7 t8 b8 b8 G9 b9", api.Breaker{Until: 8}, "0020201200"},
		{api.BreakerSet{Fails: 3, Open: 10, Probes: 2}, "b1 b1 b1 x2 x2 g2 x3 x3 x4 b5 t13 b13 t14 b14 b14 b14 G15 b15 G16 X16", api.Breaker{Fails: 1, Until: 14}, "00000000020201120100"},
		{api.BreakerSet{Fails: 2, Open: 4, Probes: 3}, "x0 x0 t4 b4 b4 b4 b4 X5 b5 t9 b9 b9 G9 G9 b9 G10 G10 G10 x11", api.Breaker{Fails: 1, Until: 9}, "0001112020120010000"},
		{api.BreakerSet{Fails: 1, Open: 1, Probes: 1}, "x0 t1 b1 X1 t1 b1 t2 b2 g2 x2 G2 x2", api.Breaker{Mode: 1, Until: 3}, "001002010000"},
		{api.BreakerSet{Fails: 1, Open: mostOpen, Probes: mostProbes}, "x536870912 b536870912 t536870912", api.Breaker{Mode: 1, Until: 537919488}, "020"},
		{api.BreakerSet{Fails: 2, Open: 3, Probes: 2}, "x1 G1 X2 x2 t5 b5 G5 x6 g6 b6 X6 G6 t9 b9 b9", api.Breaker{Mode: 2, Until: 9, Probes: 2}, "000001000100011"},
	} {
		b, told, e := breaker.Run(c.s, acts(c.text)...)
		if b != c.want || digits(told) != c.told || e != api.OK {
			t.Errorf("P15.3: Run(%v, %s): %v %s %d, want %v %s", c.s, c.text, b, digits(told), e, c.want, c.told)
		}
	}
}

// TestRunOfNone: nil and empty lists are one, and settings are asked even so.
func TestRunOfNone(t *testing.T) {
	_, s, _ := ordinary()
	for _, l := range [][]api.BreakerAct{nil, {}} {
		if b, told, e := breaker.Run(s, l...); b != (api.Breaker{}) || len(told) != 0 || e != api.OK {
			t.Errorf("P15.3: Run of no acts: %v %v %d", b, told, e)
		}
		if b, told, e := breaker.Run(api.BreakerSet{}, l...); b != (api.Breaker{}) || len(told) != 0 || e != api.ErrRange {
			t.Errorf("P15.3: Run of no acts and no settings: %v %v %d, want %d", b, told, e, api.ErrRange)
		}
	}
}

// many are n acts at tick 7.
func many(n int) []api.BreakerAct {
	return slices.Repeat([]api.BreakerAct{{What: 2, Tick: 7}}, n)
}

func wantRun(t *testing.T, s api.BreakerSet, l []api.BreakerAct, want api.Errno) {
	t.Helper()
	b, told, e := breaker.Run(s, l...)
	if e != want || e == api.OK && len(told) != len(l) || e != api.OK && (b != api.Breaker{} || len(told) != 0) {
		t.Errorf("P15.3: Run(%v, %d acts): %v %d told, %d, want %d", s, len(l), b, len(told), e, want)
	}
}

// TestRunErrors: an act of no kind, wherever it is, goes ahead of too many, and these ahead of settings and ticks.
func TestRunErrors(t *testing.T) {
	_, s, _ := ordinary()
	wantRun(t, s, many(mostActs), api.OK)
	wantRun(t, s, many(mostActs+1), api.ErrCount)
	wantRun(t, s, many(5000), api.ErrCount)
	wantRun(t, api.BreakerSet{}, many(mostActs), api.ErrRange)
	wantRun(t, api.BreakerSet{}, many(mostActs+1), api.ErrCount)
	for _, what := range append([]int{0, 4, 5, 1000}, far...) {
		for _, n := range []int{1, 2, 40, mostActs, mostActs + 1, 3000} {
			for _, at := range []int{0, n / 2, n - 1} {
				l := many(n)
				l[at].What = what
				wantRun(t, s, l, api.ErrKind)
				wantRun(t, api.BreakerSet{}, l, api.ErrKind)
				l[0].Tick = -1
				wantRun(t, s, l, api.ErrKind)
			}
		}
	}
	for _, what := range []int{1, 2, 3} {
		wantRun(t, s, []api.BreakerAct{{What: what}}, api.OK)
	}
}

// TestRunTicks: ticks stay or rise, from 0 to 2^29, whatever the act.
func TestRunTicks(t *testing.T) {
	_, s, _ := ordinary()
	for _, what := range []int{1, 2, 3} {
		for _, c := range []struct {
			ticks []int
			want  api.Errno
		}{
			{[]int{0}, api.OK}, {[]int{mostTick}, api.OK}, {[]int{0, 0, 5, 5, 6, mostTick, mostTick}, api.OK},
			{[]int{-1}, api.ErrRange}, {[]int{mostTick + 1}, api.ErrRange}, {[]int{-1, 0}, api.ErrRange},
			{[]int{0, mostTick + 1}, api.ErrRange}, {[]int{3, 2}, api.ErrRange}, {[]int{1, 0}, api.ErrRange},
			{[]int{1, 2, 3, 2}, api.ErrRange}, {[]int{5, 4, 6, 7}, api.ErrRange}, {[]int{5, 9, 7, 8}, api.ErrRange},
			{[]int{mostTick, 0}, api.ErrRange}, {[]int{5, -1}, api.ErrRange},
		} {
			var l []api.BreakerAct
			for _, tick := range c.ticks {
				l = append(l, api.BreakerAct{What: what, Tick: tick})
			}
			wantRun(t, s, l, c.want)
		}
		for _, tick := range far {
			wantRun(t, s, []api.BreakerAct{{What: what, Tick: tick}}, api.ErrRange)
			wantRun(t, s, []api.BreakerAct{{What: what, Tick: 5}, {What: what, Tick: tick}}, api.ErrRange)
			wantRun(t, s, []api.BreakerAct{{What: what, Tick: tick}, {What: what, Tick: 5}}, api.ErrRange)
		}
	}
}

// TestRunSettings: each setting at the ends of its range, and next to them.
func TestRunSettings(t *testing.T) {
	for _, n := range []int{1, 2, 63, 64, 65, 999, 1000, 1001, mostOpen - 1, mostOpen, mostOpen + 1, 0, -1, math.MaxInt, math.MinInt} {
		for _, s := range []api.BreakerSet{{Fails: n, Open: 1, Probes: 1}, {Fails: 1, Open: n, Probes: 1}, {Fails: 1, Open: 1, Probes: n}} {
			want := api.OK
			if !slowSet(s) {
				want = api.ErrRange
			}
			wantRun(t, s, nil, want)
			wantRun(t, s, acts("b0 x0 t1 b1 G1"), want)
		}
	}
}

// anyActs mostly has ticks that rise by little.
func anyActs(r *rand.Rand, n int) []api.BreakerAct {
	l := make([]api.BreakerAct, n)
	tick := r.Intn(3)
	for i := range l {
		tick += r.Intn(4) / 2
		l[i] = api.BreakerAct{What: 1 + r.Intn(3), Tick: tick, Probe: r.Intn(2) == 0, Good: r.Intn(3) > 0}
	}
	if n > 0 && r.Intn(6) == 0 {
		l[r.Intn(n)].Tick += r.Intn(7) - 3
	}
	if n > 0 && r.Intn(30) == 0 {
		l[r.Intn(n)].What = 4 * r.Intn(2)
	}
	return l
}

func anySet(r *rand.Rand) api.BreakerSet {
	return api.BreakerSet{Fails: 1 + r.Intn(3), Open: 1 + r.Intn(5), Probes: 1 + r.Intn(4)}
}

func TestRunOfAny(t *testing.T) {
	r := rand.New(rand.NewSource(32))
	times, how := map[api.Errno]int{}, make([]int, 3)
	for range 20000 {
		s, l := anySet(r), anyActs(r, r.Intn(60))
		if r.Intn(100) == 0 {
			s.Open = 0
		}
		if r.Intn(100) == 0 {
			l = anyActs(r, mostActs-1+r.Intn(3))
		}
		want, told, wrong := slowRun(s, l)
		times[wrong]++
		for _, n := range told {
			how[n]++
		}
		b, got, e := breaker.Run(s, l...)
		if b != want || !slices.Equal(got, told) || e != wrong {
			t.Fatalf("P15.3: Run(%v, %v): %v %v %d, want %v %v %d", s, l, b, got, e, want, told, wrong)
		}
	}
	for _, e := range []api.Errno{api.OK, api.ErrKind, api.ErrCount, api.ErrRange} {
		if times[e] < 20 {
			t.Errorf("P15.3: what Run answered was too much of a kind: %v", times)
		}
	}
	if slices.Min(how) < 1000 {
		t.Errorf("P15.3: how acts went was too much of a kind: %v", how)
	}
}

// TestRunIsCalls: what Run answers is the other calls, one after the other, and a refused Begin leaves the breaker as it was.
func TestRunIsCalls(t *testing.T) {
	r := rand.New(rand.NewSource(33))
	for range 500 {
		s, l := anySet(r), anyActs(r, 80)
		if _, _, e := breaker.Run(s, l...); e != api.OK {
			continue
		}
		var b api.Breaker
		var told []int
		for i, a := range l {
			how := 0
			switch a.What {
			case 1:
				b, _ = breaker.Tick(b, s, a.Tick)
			case 2:
				if next, probe, e := breaker.Begin(b, s, a.Tick); e != api.OK {
					how = 2
				} else if b = next; probe {
					how = 1
				}
			case 3:
				b, _ = breaker.End(b, s, a.Tick, a.Probe, a.Good)
			}
			told = append(told, how)
			if out, got, e := breaker.Run(s, l[:i+1]...); out != b || !slices.Equal(got, told) || e != api.OK {
				t.Fatalf("P15.3: Run(%v, %v): %v %v %d, want %v %v", s, l[:i+1], out, got, e, b, told)
			}
		}
	}
}

// TestProbesOut: of requests that end once each, as Begin told, Probes are those that are out, and never more than the settings say.
func TestProbesOut(t *testing.T) {
	r := rand.New(rand.NewSource(34))
	full := 0
	for range 300 {
		s := anySet(r)
		if r.Intn(4) == 0 {
			s.Probes = 1 + r.Intn(mostProbes)
		}
		var b api.Breaker
		var out []bool
		tick := 0
		for range 400 {
			tick += r.Intn(2)
			switch what := r.Intn(5); {
			case what == 0:
				b, _ = breaker.Tick(b, s, tick)
			case what < 4 || len(out) == 0:
				if next, probe, e := breaker.Begin(b, s, tick); e == api.OK {
					b, out = next, append(out, probe)
				}
			default:
				at := r.Intn(len(out))
				b, _ = breaker.End(b, s, tick, out[at], r.Intn(2) == 0)
				out = slices.Delete(out, at, at+1)
			}
			probes := 0
			for _, probe := range out {
				if probe {
					probes++
				}
			}
			if probes > s.Probes || b.Probes != probes {
				t.Fatalf("P15.4: with %v %d probes are out, and %v", s, probes, b)
			}
			if probes == s.Probes {
				full++
			}
		}
	}
	if full < 1000 {
		t.Errorf("P15.4: all probes that may be out were out only %d times", full)
	}
}

// TestProbesOfAny: no acts, be they such as never go together, bring Probes above what the settings say, and none brings a breaker that may not be.
func TestProbesOfAny(t *testing.T) {
	r := rand.New(rand.NewSource(35))
	for range 5000 {
		s, l := anySet(r), anyActs(r, r.Intn(100))
		b, _, e := breaker.Run(s, l...)
		if b.Probes > s.Probes {
			t.Fatalf("P15.4: Run(%v, %v): %v", s, l, b)
		}
		if e == api.OK && breaker.Check(b, s, mostTick) != api.OK {
			t.Fatalf("P15.1: Run(%v, %v): %v, which may not be", s, l, b)
		}
	}
}

// TestOldProbes: probes that were sent ahead of a failure are still out behind it.
func TestOldProbes(t *testing.T) {
	s := api.BreakerSet{Fails: 1, Open: 2, Probes: 3}
	b, told, e := breaker.Run(s, acts("x0 t2 b2 b2 b2 X3 t5 b5 b5 X6 G6 t8 b8 b8 b8")...)
	if want := (api.Breaker{Mode: 2, Until: 8, Probes: 3}); b != want || digits(told) != "001110012000112" || e != api.OK {
		t.Errorf("P15.4: Run: %v %s %d, want %v", b, digits(told), e, want)
	}
}

// TestNotChanged: what is handed in stays, with the room behind it.
func TestNotChanged(t *testing.T) {
	_, s, _ := ordinary()
	l := append(acts("b0 x1 x1 x1 x1 x2 t12 b12 G13 X13"), api.BreakerAct{What: -7, Tick: -7}, api.BreakerAct{What: 2})
	kept := slices.Clone(l)
	for n := range len(l) + 1 {
		breaker.Run(s, l[:n]...)
		breaker.Run(api.BreakerSet{}, l[:n]...)
	}
	if !slices.Equal(l, kept) {
		t.Errorf("P15.5: what is handed in is changed: %v", l)
	}
}

// TestNewMemory: an answer that is written over, to the end of its room, changes no other one, and acts that are changed behind a call change none.
func TestNewMemory(t *testing.T) {
	_, s, _ := ordinary()
	for _, n := range []int{1, 2, 9, mostActs} {
		l := many(n)
		b, told, _ := breaker.Run(s, l...)
		kept := slices.Clone(told)
		for range 2 {
			again, more, e := breaker.Run(s, l...)
			if again != b || !slices.Equal(more, kept) || e != api.OK {
				t.Errorf("P15.5: Run shares memory with what is kept: %v %v %d", again, more, e)
			}
			more = more[:cap(more)]
			for i := range more {
				more[i] = -77
			}
		}
		clear(l)
		if !slices.Equal(told, kept) {
			t.Errorf("P15.5: an answer of Run shares memory: %v, want %v", told, kept)
		}
	}
}

// TestNotKept: calls know nothing of each other.
func TestNotKept(t *testing.T) {
	b, s, tick := ordinary()
	l := acts("b0 x1 x1 x1 x1 x2 t12 b12 G13 X13")
	want, told, _ := breaker.Run(s, l...)
	breaker.Run(api.BreakerSet{Fails: 1, Open: 1, Probes: 1}, acts("x0 x0 t1 b1 x2")...)
	breaker.Run(s, api.BreakerAct{What: 9})
	agree(t, b, s, tick)
	agree(t, b, api.BreakerSet{}, tick)
	agree(t, b, s, tick)
	if again, more, e := breaker.Run(s, l...); again != want || !slices.Equal(more, told) || e != api.OK {
		t.Errorf("P15.5: Run hangs on the calls ahead: %v %v %d, want %v %v", again, more, e, want, told)
	}
}

// TestAtOnce: goroutines that call at the same time are told what one is told.
func TestAtOnce(t *testing.T) {
	b, s, tick := ordinary()
	l := anyActs(rand.New(rand.NewSource(36)), 100)
	ask := func() []int {
		out, told, e := breaker.Run(s, l...)
		began, probe, f := breaker.Begin(b, s, tick)
		ended, g := breaker.End(began, s, tick, probe, false)
		ticked, h := breaker.Tick(ended, s, tick+10)
		may, i := breaker.Allows(ticked, s, tick)
		told = append(told, int(e), int(f), int(g), int(h), int(i))
		for _, x := range []api.Breaker{out, began, ended, ticked} {
			told = append(told, x.Mode, x.Fails, x.Until, x.Probes, x.Wins)
		}
		if may {
			told = append(told, 1)
		}
		return told
	}
	want := ask()
	got := make([][]int, 16)
	var all sync.WaitGroup
	for i := range got {
		all.Go(func() {
			for range 50 {
				got[i] = ask()
			}
		})
	}
	all.Wait()
	for i, told := range got {
		if !slices.Equal(told, want) {
			t.Errorf("P15.5: goroutine %d is told %d, want %d", i, told, want)
		}
	}
}

// told makes acts of octets: three bits for what, one each for Probe and Good, three for a step of the tick, which may go back.
func told(b []byte) []api.BreakerAct {
	l := make([]api.BreakerAct, len(b))
	tick := 0
	for i, c := range b {
		step := int(c >> 5)
		if step == 7 {
			step = -1
		}
		tick += step
		what := int(c & 7)
		if what > 4 {
			what -= 4
		}
		l[i] = api.BreakerAct{What: what, Tick: tick, Probe: c&8 != 0, Good: c&16 != 0}
	}
	return l
}

// FuzzBreaker holds P15.1 to P15.4 for breakers, settings and acts of any kind.
func FuzzBreaker(f *testing.F) {
	f.Add(0, 0, 0, 0, 0, 1, 5, 1, 3, []byte{2, 3, 2, 97, 2, 27, 129, 2})
	f.Add(2, 3, 20, 1, 1, 5, 10, 3, 25, []byte{3, 3, 3, 3, 3, 2, 225})
	f.Add(1, 1000, mostUntil, 1000, 1000, mostFails, mostOpen, mostProbes, mostTick, []byte{})
	f.Add(3, -1, math.MaxInt, math.MinInt, 1001, 0, 0, 65, -1, []byte{0, 4, 31})
	f.Fuzz(func(t *testing.T, mode, fails, until, probes, wins, setFails, setOpen, setProbes, tick int, octets []byte) {
		s := api.BreakerSet{Fails: setFails, Open: setOpen, Probes: setProbes}
		agree(t, api.Breaker{Mode: mode, Fails: fails, Until: until, Probes: probes, Wins: wins}, s, tick)
		l := told(octets)
		want, how, wrong := slowRun(s, l)
		b, got, e := breaker.Run(s, l...)
		if b != want || !slices.Equal(got, how) || e != wrong {
			t.Fatalf("P15.3: Run(%v, %v): %v %v %d, want %v %v %d", s, l, b, got, e, want, how, wrong)
		}
		if e == api.OK && b.Probes > s.Probes {
			t.Fatalf("P15.4: Run(%v, %v): %v", s, l, b)
		}
		agree(t, b, s, tick)
	})
}
