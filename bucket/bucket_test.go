package bucket_test

import (
	"math"
	"math/rand"
	"slices"
	"strings"
	"sync"
	"testing"

	"waybill/api"
	"waybill/bucket"
)

// The document's numbers, written out.
const (
	mostSet   = 1000
	mostLevel = 1000000
	mostCount = 1048576
	mostActs  = 4096
)

// far are numbers that nothing here may be.
var far = []int{-1, -2, -mostSet, -mostLevel, math.MinInt32, mostCount + 1, math.MaxInt32, 1 << 32, 1<<32 + 1, 1 << 61, math.MaxInt/1000 + 1, math.MaxInt - mostLevel, math.MaxInt, math.MinInt, math.MinInt + mostLevel}

// span is a number and the least and the most that it may be.
type span struct {
	n, least, most int
}

func anyOut(l ...span) bool {
	for _, x := range l {
		if x.n < x.least {
			return true
		}
		if x.n > x.most {
			return true
		}
	}
	return false
}

func slowSet(s api.BucketSet) bool {
	if anyOut(span{s.Call, 0, mostSet}, span{s.Tick, 0, mostSet}, span{s.Reserve, 0, mostSet}) {
		return false
	}
	return !anyOut(span{s.Cap, s.Reserve, mostSet})
}

// slowCheck goes by the words of the chapter.
func slowCheck(s api.BucketSet, level int) api.Errno {
	if !slowSet(s) {
		return api.ErrRange
	}
	if anyOut(span{level, 0, s.Cap * 1000}) {
		return api.ErrState
	}
	return api.OK
}

func slowStart(s api.BucketSet) (int, api.Errno) {
	if !slowSet(s) {
		return 0, api.ErrRange
	}
	return s.Reserve * 1000, api.OK
}

// slowBring brings each in n times, one time behind the other, until there is no more room.
func slowBring(s api.BucketSet, level, n, each int) (int, api.Errno) {
	if e := slowCheck(s, level); e != api.OK {
		return 0, e
	}
	if anyOut(span{n, 0, mostCount}) {
		return 0, api.ErrCount
	}
	if each == 0 {
		return level, api.OK
	}
	for range n {
		if level+each > s.Cap*1000 {
			return s.Cap * 1000, api.OK
		}
		level += each
	}
	return level, api.OK
}

// slowTake looks at whole tokens and what is beside them.
func slowTake(s api.BucketSet, level int) (int, bool, api.Errno) {
	if e := slowCheck(s, level); e != api.OK {
		return 0, false, e
	}
	whole, rest := level/1000, level%1000
	if whole == 0 {
		return rest, false, api.OK
	}
	return (whole-1)*1000 + rest, true, api.OK
}

func slowMayRun(s api.BucketSet, l []int) api.Errno {
	if !slowSet(s) {
		return api.ErrRange
	}
	if len(l) > mostActs {
		return api.ErrCount
	}
	for _, act := range l {
		if act != 1 && act != 2 && act != 3 {
			return api.ErrKind
		}
	}
	return api.OK
}

// slowRun is the slow forms, one after the other.
func slowRun(s api.BucketSet, l []int) (int, int, api.Errno) {
	if e := slowMayRun(s, l); e != api.OK {
		return 0, 0, e
	}
	level, _ := slowStart(s)
	taken := 0
	for _, act := range l {
		switch act {
		case 1:
			level, _ = slowBring(s, level, 1, s.Call)
		case 2:
			level, _ = slowBring(s, level, 1, s.Tick)
		case 3:
			next, is, _ := slowTake(s, level)
			level = next
			if is {
				taken++
			}
		}
	}
	return level, taken, api.OK
}

// agree holds all calls but Run against their slow forms.
func agree(t *testing.T, s api.BucketSet, level, n int) {
	t.Helper()
	wrong := slowCheck(s, level)
	if e := bucket.Check(s, level); e != wrong {
		t.Fatalf("P17.1: Check(%v, %d): %d, want %d", s, level, e, wrong)
	}
	want, wrong := slowStart(s)
	if out, e := bucket.Start(s); out != want || e != wrong {
		t.Fatalf("P17.1: Start(%v): %d %d, want %d %d", s, out, e, want, wrong)
	}
	want, wrong = slowBring(s, level, n, s.Call)
	if out, e := bucket.Calls(s, level, n); out != want || e != wrong {
		t.Fatalf("P17.1: Calls(%v, %d, %d): %d %d, want %d %d", s, level, n, out, e, want, wrong)
	}
	want, wrong = slowBring(s, level, n, s.Tick)
	if out, e := bucket.Ticks(s, level, n); out != want || e != wrong {
		t.Fatalf("P17.1: Ticks(%v, %d, %d): %d %d, want %d %d", s, level, n, out, e, want, wrong)
	}
	want, is, wrong := slowTake(s, level)
	if out, taken, e := bucket.Take(s, level); out != want || taken != is || e != wrong {
		t.Fatalf("P17.1: Take(%v, %d): %d %t %d, want %d %t %d", s, level, out, taken, e, want, is, wrong)
	}
}

func agreeOn(t *testing.T, s api.BucketSet, l ...int) {
	t.Helper()
	want, times, wrong := slowRun(s, l)
	if out, taken, e := bucket.Run(s, l...); out != want || taken != times || e != wrong {
		t.Fatalf("P17.2: Run(%v, %v): %d %d %d, want %d %d %d", s, l, out, taken, e, want, times, wrong)
	}
}

// acts are told by letters: c a call, t a tick, x Take.
func acts(text string) []int {
	var l []int
	for _, c := range text {
		l = append(l, strings.IndexRune("ctx", c)+1)
	}
	return l
}

// ordinary are settings, a level and a count that may be.
func ordinary() (api.BucketSet, int, int) {
	return api.BucketSet{Call: 100, Tick: 20, Reserve: 3, Cap: 8}, 4321, 7
}

// TestExample: the chapter's.
func TestExample(t *testing.T) {
	s := api.BucketSet{Reserve: 1, Cap: 2}
	level, e := bucket.Start(s)
	if level != 1000 || e != api.OK {
		t.Fatalf("P17.1: Start(%v): %d %d, want 1000", s, level, e)
	}
	level, taken, e := bucket.Take(s, level)
	if level != 0 || !taken || e != api.OK {
		t.Fatalf("P17.1: Take(%v, 1000): %d %t %d, want 0 and true", s, level, taken, e)
	}
	level, taken, e = bucket.Take(s, level)
	if level != 0 || taken || e != api.OK {
		t.Fatalf("P17.1: Take(%v, 0): %d %t %d, want 0 and false", s, level, taken, e)
	}
	if level, times, e := bucket.Run(s, 3, 3); level != 0 || times != 1 || e != api.OK {
		t.Errorf("P17.2: Run(%v, 3, 3): %d %d %d, want 0 and 1", s, level, times, e)
	}
}

// TestSetEdges: each setting at the ends of its range, and next to them, to every call.
func TestSetEdges(t *testing.T) {
	var s api.BucketSet
	var level, n int
	for _, c := range []struct {
		name        string
		number      *int
		least, most int
	}{
		{"Call", &s.Call, 0, mostSet},
		{"Tick", &s.Tick, 0, mostSet},
		{"Reserve", &s.Reserve, 0, 8},
		{"Cap", &s.Cap, 5, mostSet},
	} {
		ask := func(number int, want api.Errno) {
			s, level, n = ordinary()
			*c.number = number
			if c.name == "Cap" {
				s.Reserve = 5
			}
			if e := bucket.Check(s, level); e != want {
				t.Errorf("P17.1: Check with %s %d: %d, want %d", c.name, number, e, want)
			}
			if _, e := bucket.Start(s); e != want {
				t.Errorf("P17.1: Start with %s %d: %d, want %d", c.name, number, e, want)
			}
			if _, _, e := bucket.Run(s, 1, 2, 3); e != want {
				t.Errorf("P17.2: Run with %s %d: %d, want %d", c.name, number, e, want)
			}
			agree(t, s, level, n)
			agreeOn(t, s, 1, 2, 3)
		}
		for _, number := range []int{c.least, c.least + 1, (c.least + c.most) / 2, c.most - 1, c.most} {
			ask(number, api.OK)
		}
		for _, number := range append([]int{c.least - 1, c.most + 1}, far...) {
			ask(number, api.ErrRange)
		}
	}
}

// TestReserveAndCap: all of both, and those next to what they may be.
func TestReserveAndCap(t *testing.T) {
	edges := []int{-1, 0, 1, 2, 3, 499, 500, 501, 998, 999, 1000, 1001, 1002}
	for _, reserve := range edges {
		for _, most := range edges {
			s := api.BucketSet{Call: 1, Tick: 1, Reserve: reserve, Cap: most}
			want, level := api.ErrRange, 0
			if 0 <= reserve && reserve <= most && most <= 1000 {
				want, level = api.OK, 1000*reserve
			}
			if out, e := bucket.Start(s); out != level || e != want {
				t.Errorf("P17.1: Start(%v): %d %d, want %d %d", s, out, e, level, want)
			}
			if e := bucket.Check(s, level); e != want {
				t.Errorf("P17.1: Check(%v, %d): %d, want %d", s, level, e, want)
			}
			if out, taken, e := bucket.Run(s); out != level || taken != 0 || e != want {
				t.Errorf("P17.2: Run(%v): %d %d %d, want %d 0 %d", s, out, taken, e, level, want)
			}
		}
	}
}

// TestLevelEdges: levels at the ends of what each Cap lets them be, and next to them.
func TestLevelEdges(t *testing.T) {
	for _, most := range []int{0, 1, 2, 500, 999, 1000} {
		s := api.BucketSet{Call: 3, Tick: 1000, Cap: most}
		ask := func(level int, want api.Errno) {
			if e := bucket.Check(s, level); e != want {
				t.Errorf("P17.1: Check(%v, %d): %d, want %d", s, level, e, want)
			}
			for _, n := range []int{0, 1, 2, 999, mostCount, mostCount + 1, -1} {
				agree(t, s, level, n)
			}
		}
		for _, level := range []int{0, most, 500 * most, 1000*most - min(most, 1), 1000 * most} {
			ask(level, api.OK)
		}
		for _, level := range append([]int{1000*most + 1, 1000*most + 1000, mostLevel + 1}, far...) {
			ask(level, api.ErrState)
		}
	}
}

func TestCallsAndTicks(t *testing.T) {
	for _, c := range []struct {
		each, most, level, n, want int
	}{
		{300, 1, 900, 1, 1000}, {300, 1, 700, 1, 1000}, {300, 1, 699, 1, 999}, {300, 1, 701, 1, 1000}, {300, 1, 1000, 1, 1000},
		{300, 1, 100, 3, 1000}, {300, 1, 99, 3, 999}, {300, 1, 0, 0, 0}, {300, 1, 1000, 0, 1000}, {300, 1, 5, 0, 5},
		{0, 1, 5, 1, 5}, {0, 1, 5, mostCount, 5}, {0, 0, 0, mostCount, 0}, {1000, 0, 0, mostCount, 0}, {1000, 0, 0, 1, 0},
		{1, 1000, 0, 999999, 999999}, {1, 1000, 0, 1000000, 1000000}, {1, 1000, 0, 1000001, 1000000}, {1, 1000, 0, mostCount, 1000000},
		{1000, 1000, 0, 1000, 1000000}, {1000, 1000, 1, 999, 999001}, {1000, 1000, 1, 1000, 1000000}, {1000, 1000, 1000000, mostCount, 1000000},
		{999, 1000, 0, 1000, 999000}, {999, 1000, 1000, 1000, 1000000}, {7, 3, 2990, 1, 2997}, {7, 3, 2993, 1, 3000}, {7, 3, 2994, 1, 3000},
	} {
		// What the other one brings in, and how much there is to begin with, count nothing here.
		for _, other := range []int{0, 1, 1000} {
			for _, reserve := range []int{0, c.most} {
				s := api.BucketSet{Call: c.each, Tick: other, Reserve: reserve, Cap: c.most}
				if out, e := bucket.Calls(s, c.level, c.n); out != c.want || e != api.OK {
					t.Errorf("P17.1: Calls(%v, %d, %d): %d %d, want %d", s, c.level, c.n, out, e, c.want)
				}
				s.Call, s.Tick = s.Tick, s.Call
				if out, e := bucket.Ticks(s, c.level, c.n); out != c.want || e != api.OK {
					t.Errorf("P17.1: Ticks(%v, %d, %d): %d %d, want %d", s, c.level, c.n, out, e, c.want)
				}
			}
		}
	}
}

// TestCountEdges: how many calls or ticks there may be, however little they bring in.
func TestCountEdges(t *testing.T) {
	set, level, _ := ordinary()
	for _, s := range []api.BucketSet{set, {Cap: 8}, {Call: 1000, Tick: 1000, Cap: 1000}} {
		ask := func(n int, want api.Errno) {
			if _, e := bucket.Calls(s, level, n); e != want {
				t.Errorf("P17.1: Calls(%v, %d, %d): %d, want %d", s, level, n, e, want)
			}
			if _, e := bucket.Ticks(s, level, n); e != want {
				t.Errorf("P17.1: Ticks(%v, %d, %d): %d, want %d", s, level, n, e, want)
			}
			agree(t, s, level, n)
		}
		for _, n := range []int{0, 1, 2, mostCount - 1, mostCount} {
			ask(n, api.OK)
		}
		for _, n := range far {
			ask(n, api.ErrCount)
		}
	}
}

// TestErrorsInOrder: settings go ahead of the level, the level ahead of the count, and beside an error all is zero.
func TestErrorsInOrder(t *testing.T) {
	set, level, n := ordinary()
	for _, c := range []struct {
		s        api.BucketSet
		level, n int
		wrong    api.Errno
	}{
		{api.BucketSet{Call: -1}, level, n, api.ErrRange},
		{api.BucketSet{Tick: 1001, Cap: 9}, level, n, api.ErrRange},
		{api.BucketSet{Reserve: 2, Cap: 1}, -1, n, api.ErrRange},
		{api.BucketSet{Cap: 1001}, level, -1, api.ErrRange},
		{api.BucketSet{Cap: -1}, -1, mostCount + 1, api.ErrRange},
		{api.BucketSet{Cap: math.MaxInt}, math.MaxInt, math.MaxInt, api.ErrRange},
		{set, -1, n, api.ErrState},
		{set, 8001, n, api.ErrState},
		{set, -1, -1, api.ErrState},
		{set, 8001, mostCount + 1, api.ErrState},
		{set, level, -1, api.ErrCount},
		{set, level, mostCount + 1, api.ErrCount},
	} {
		agree(t, c.s, c.level, c.n)
		if out, e := bucket.Calls(c.s, c.level, c.n); out != 0 || e != c.wrong {
			t.Errorf("P17.1: Calls(%v, %d, %d): %d %d, want 0 and %d", c.s, c.level, c.n, out, e, c.wrong)
		}
		if out, e := bucket.Ticks(c.s, c.level, c.n); out != 0 || e != c.wrong {
			t.Errorf("P17.1: Ticks(%v, %d, %d): %d %d, want 0 and %d", c.s, c.level, c.n, out, e, c.wrong)
		}
		if c.wrong == api.ErrCount {
			continue
		}
		if e := bucket.Check(c.s, c.level); e != c.wrong {
			t.Errorf("P17.1: Check(%v, %d): %d, want %d", c.s, c.level, e, c.wrong)
		}
		if out, taken, e := bucket.Take(c.s, c.level); out != 0 || taken || e != c.wrong {
			t.Errorf("P17.1: Take(%v, %d): %d %t %d, want none and %d", c.s, c.level, out, taken, e, c.wrong)
		}
		if c.wrong == api.ErrState {
			continue
		}
		if out, e := bucket.Start(c.s); out != 0 || e != c.wrong {
			t.Errorf("P17.1: Start(%v): %d %d, want 0 and %d", c.s, out, e, c.wrong)
		}
	}
}

func TestTake(t *testing.T) {
	for _, c := range []struct {
		most, level, want int
		taken             bool
	}{
		{0, 0, 0, false}, {1, 0, 0, false}, {1, 1, 1, false}, {1, 999, 999, false}, {1, 1000, 0, true},
		{2, 999, 999, false}, {2, 1000, 0, true}, {2, 1001, 1, true}, {2, 1999, 999, true}, {2, 2000, 1000, true},
		{1000, 999, 999, false}, {1000, 1000, 0, true}, {1000, 999999, 998999, true}, {1000, 1000000, 999000, true},
	} {
		// What comes in counts nothing here, nor what there is to begin with.
		for _, s := range []api.BucketSet{{Cap: c.most}, {Call: 1000, Tick: 1000, Cap: c.most}, {Call: 7, Reserve: c.most, Cap: c.most}} {
			if out, taken, e := bucket.Take(s, c.level); out != c.want || taken != c.taken || e != api.OK {
				t.Errorf("P17.1: Take(%v, %d): %d %t %d, want %d %t", s, c.level, out, taken, e, c.want, c.taken)
			}
		}
	}
}

func TestRun(t *testing.T) {
	for _, c := range []struct {
		s            api.BucketSet
		acts         string
		level, times int
	}{
		{api.BucketSet{Call: 100, Tick: 20, Reserve: 3, Cap: 8}, "", 3000, 0},
		{api.BucketSet{Call: 100, Tick: 20, Reserve: 3, Cap: 8}, "c", 3100, 0},
		{api.BucketSet{Call: 100, Tick: 20, Reserve: 3, Cap: 8}, "t", 3020, 0},
		{api.BucketSet{Call: 100, Tick: 20, Reserve: 3, Cap: 8}, "x", 2000, 1},
		{api.BucketSet{Call: 100, Tick: 20, Reserve: 3, Cap: 8}, "ctx", 2120, 1},
		{api.BucketSet{Call: 100, Tick: 20, Reserve: 3, Cap: 8}, "xxxxx", 0, 3},
		{api.BucketSet{Call: 100, Tick: 20, Reserve: 3, Cap: 8}, "xcxtxcxcxxxxx", 320, 3},
		{api.BucketSet{Call: 1000, Tick: 500}, "ctx", 0, 0},
		{api.BucketSet{Call: 1000, Tick: 500, Cap: 1}, "xcx", 0, 1},
		{api.BucketSet{Call: 1000, Tick: 500, Cap: 1}, "xtxtx", 0, 1},
		{api.BucketSet{Call: 1000, Tick: 500, Cap: 1}, "ccccxxx", 0, 1},
		{api.BucketSet{Call: 1000, Tick: 500, Cap: 1}, "txcxx", 0, 1},
		{api.BucketSet{Call: 1000, Tick: 500, Cap: 2}, "tcxtx", 0, 2},
		{api.BucketSet{Call: 600, Tick: 500, Reserve: 1, Cap: 1}, "ctxctx", 0, 2},
		{api.BucketSet{Call: 600, Tick: 399, Reserve: 1, Cap: 1}, "xctx", 999, 1},
		{api.BucketSet{Call: 600, Tick: 400, Reserve: 1, Cap: 1}, "xctx", 0, 2},
		{api.BucketSet{Call: 1, Tick: 0, Reserve: 0, Cap: 1000}, "cttcx", 2, 0},
		{api.BucketSet{Call: 1000, Tick: 1000, Reserve: 1000, Cap: 1000}, "ctctxx", 998000, 2},
	} {
		l := acts(c.acts)
		if level, times, e := bucket.Run(c.s, l...); level != c.level || times != c.times || e != api.OK {
			t.Errorf("P17.2: Run(%v, %s): %d %d %d, want %d %d", c.s, c.acts, level, times, e, c.level, c.times)
		}
		agreeOn(t, c.s, l...)
	}
}

// TestRunCounts: as many acts as there may be, one fewer and more, of each kind.
func TestRunCounts(t *testing.T) {
	s := api.BucketSet{Call: 3, Tick: 2, Reserve: 500, Cap: 1000}
	for _, n := range []int{mostActs - 1, mostActs, mostActs + 1, mostActs + 2, 2 * mostActs, 70000} {
		want := api.OK
		if n > mostActs {
			want = api.ErrCount
		}
		for kind, left := range []int{500000 + 3*n, 500000 + 2*n, 0} {
			level, times, e := bucket.Run(s, slices.Repeat([]int{kind + 1}, n)...)
			switch {
			case e != want || e != api.OK && (level != 0 || times != 0):
				t.Errorf("P17.2: Run of %d acts %d: %d %d %d, want %d", n, kind+1, level, times, e, want)
			case e == api.OK && (level != left || times != kind/2*500):
				t.Errorf("P17.2: Run of %d acts %d: %d %d, want %d %d", n, kind+1, level, times, left, kind/2*500)
			}
		}
	}
}

// TestRunKinds: acts of no kind, wherever they stand.
func TestRunKinds(t *testing.T) {
	s, _, _ := ordinary()
	for _, n := range []int{1, 2, 5, mostActs} {
		for _, place := range []int{0, n / 2, n - 1} {
			l := slices.Repeat([]int{3}, n)
			for _, kind := range append([]int{0, 4, 5, 256 + 1, 1<<16 + 2}, far...) {
				l[place] = kind
				if level, times, e := bucket.Run(s, l...); level != 0 || times != 0 || e != api.ErrKind {
					t.Errorf("P17.2: Run with kind %d as act %d of %d: %d %d %d, want none and %d", kind, place, n, level, times, e, api.ErrKind)
				}
			}
			for kind := 1; kind <= 3; kind++ {
				l[place] = kind
				agreeOn(t, s, l...)
			}
		}
	}
}

// TestRunErrorsInOrder: settings go ahead of too many acts, those ahead of acts of no kind.
func TestRunErrorsInOrder(t *testing.T) {
	set, _, _ := ordinary()
	bad := api.BucketSet{Reserve: 2, Cap: 1}
	many := slices.Repeat([]int{1}, mostActs+1)
	strange := slices.Repeat([]int{0}, mostActs+1)
	late := slices.Clone(many)
	late[mostActs] = 4
	for _, c := range []struct {
		s     api.BucketSet
		l     []int
		wrong api.Errno
	}{
		{bad, nil, api.ErrRange}, {bad, []int{1}, api.ErrRange}, {bad, []int{0}, api.ErrRange}, {bad, many, api.ErrRange}, {bad, strange, api.ErrRange},
		{set, many, api.ErrCount}, {set, strange, api.ErrCount}, {set, late, api.ErrCount},
		{set, strange[1:], api.ErrKind}, {set, late[1:], api.ErrKind}, {set, many[1:], api.OK}, {set, nil, api.OK}, {set, []int{}, api.OK},
	} {
		level, times, e := bucket.Run(c.s, c.l...)
		if e != c.wrong || e != api.OK && (level != 0 || times != 0) {
			t.Errorf("P17.2: Run(%v, %d acts): %d %d %d, want %d", c.s, len(c.l), level, times, e, c.wrong)
		}
		agreeOn(t, c.s, c.l...)
	}
}

// TestRunStepByStep: Run is Start, and then the other calls, one behind the other.
func TestRunStepByStep(t *testing.T) {
	r := rand.New(rand.NewSource(41))
	for range 2000 {
		s := anyGood(r)
		l := anyActs(r, r.Intn(60))
		level, _ := bucket.Start(s)
		taken := 0
		for i, act := range l {
			e, is := api.OK, false
			switch act {
			case 1:
				level, e = bucket.Calls(s, level, 1)
			case 2:
				level, e = bucket.Ticks(s, level, 1)
			case 3:
				level, is, e = bucket.Take(s, level)
			}
			if e != api.OK || bucket.Check(s, level) != api.OK {
				t.Fatalf("P17.1: by %v, act %d of %v: level %d, %d", s, i, l, level, e)
			}
			if is {
				taken++
			}
			if out, times, e := bucket.Run(s, l[:i+1]...); out != level || times != taken || e != api.OK {
				t.Fatalf("P17.2: Run(%v, %v): %d %d %d, want %d %d", s, l[:i+1], out, times, e, level, taken)
			}
		}
	}
}

// TestInPieces: as many calls or ticks come to the same, in however many pieces they come.
func TestInPieces(t *testing.T) {
	r := rand.New(rand.NewSource(42))
	for range 5000 {
		s := anyGood(r)
		level := r.Intn(1000*s.Cap + 1)
		n := r.Intn(30)
		if r.Intn(3) == 0 {
			n = r.Intn(mostCount + 1)
		}
		part := r.Intn(n + 1)
		for _, call := range []func(api.BucketSet, int, int) (int, api.Errno){bucket.Calls, bucket.Ticks} {
			want, wrong := call(s, level, n)
			first, e := call(s, level, part)
			second, f := call(s, first, n-part)
			if second != want || wrong != api.OK || e != api.OK || f != api.OK || first < level || second < first {
				t.Fatalf("P17.1: by %v, from %d on %d of %d: %d, then %d, want %d", s, level, part, n, first, second, want)
			}
		}
	}
}

// mayTake is how many tokens may be taken of c calls and t ticks.
func mayTake(s api.BucketSet, c, t int) int {
	return s.Reserve + (s.Call*c+s.Tick*t)/1000
}

// TestNoMoreTaken: all short lists of acts, by settings whose calls and ticks make whole tokens and parts of them.
func TestNoMoreTaken(t *testing.T) {
	most, less := 0, 0
	for _, s := range []api.BucketSet{
		{}, {Cap: 1}, {Reserve: 1, Cap: 1}, {Reserve: 2, Cap: 3}, {Call: 1000, Cap: 1}, {Call: 1000, Tick: 1000, Reserve: 1, Cap: 1000},
		{Call: 500, Tick: 250, Cap: 2}, {Call: 333, Tick: 334, Cap: 2}, {Call: 999, Tick: 1, Reserve: 1, Cap: 2}, {Call: 700, Tick: 700, Cap: 1},
	} {
		for size := range 10 {
			l := make([]int, size)
			for n := range pow(3, size) {
				calls, ticks := 0, 0
				for i := range l {
					l[i] = n%3 + 1
					n /= 3
					switch l[i] {
					case 1:
						calls++
					case 2:
						ticks++
					}
				}
				bound := mayTake(s, calls, ticks)
				level, times, e := bucket.Run(s, l...)
				if e != api.OK || times > bound || 1000*times+level > 1000*s.Reserve+s.Call*calls+s.Tick*ticks {
					t.Fatalf("P17.3: Run(%v, %v): %d %d %d, but %d at most", s, l, level, times, e, bound)
				}
				if times == bound {
					most++
				} else {
					less++
				}
			}
		}
	}
	if most < 1000 || less < 1000 {
		t.Errorf("P17.3: just as many as may be were taken %d times, fewer %d times", most, less)
	}
}

func pow(n, times int) int {
	out := 1
	for range times {
		out *= n
	}
	return out
}

// TestAllTaken: where Cap leaves room, all that came in is taken in the end, but for what makes no whole token.
func TestAllTaken(t *testing.T) {
	r := rand.New(rand.NewSource(43))
	for range 2000 {
		s := api.BucketSet{Call: r.Intn(1001), Tick: r.Intn(1001), Reserve: r.Intn(50), Cap: 1000}
		calls, ticks := r.Intn(400), r.Intn(400)
		l := append(slices.Repeat([]int{1}, calls), slices.Repeat([]int{2}, ticks)...)
		r.Shuffle(len(l), func(i, j int) { l[i], l[j] = l[j], l[i] })
		want := mayTake(s, calls, ticks)
		rest := 1000*s.Reserve + s.Call*calls + s.Tick*ticks - 1000*want
		l = append(l, slices.Repeat([]int{3}, want+r.Intn(50))...)
		if level, times, e := bucket.Run(s, l...); level != rest || times != want || e != api.OK {
			t.Fatalf("P17.3: Run(%v, %d calls, %d ticks, then %d times Take): %d %d %d, want %d %d", s, calls, ticks, len(l)-calls-ticks, level, times, e, rest, want)
		}
	}
}

// TestNoStorm: nor are more tokens taken where many calls and ticks come at once, whenever Take comes between them.
func TestNoStorm(t *testing.T) {
	r := rand.New(rand.NewSource(44))
	refused := 0
	for range 2000 {
		s := anyGood(r)
		level, _ := bucket.Start(s)
		calls, ticks, taken := 0, 0, 0
		for range r.Intn(200) {
			n := r.Intn(8)
			if r.Intn(50) == 0 {
				n = r.Intn(mostCount + 1)
			}
			e, is := api.OK, false
			switch r.Intn(4) {
			case 0:
				level, e = bucket.Calls(s, level, n)
				calls += n
			case 1:
				level, e = bucket.Ticks(s, level, n)
				ticks += n
			default:
				whole := level >= 1000
				level, is, e = bucket.Take(s, level)
				if is != whole {
					t.Fatalf("P17.1: Take by %v: level %d behind it, %t", s, level, is)
				}
				if is {
					taken++
				} else {
					refused++
				}
			}
			if e != api.OK || taken > mayTake(s, calls, ticks) {
				t.Fatalf("P17.3: by %v, of %d calls and %d ticks %d tokens were taken, %d", s, calls, ticks, taken, e)
			}
		}
	}
	if refused < 1000 {
		t.Errorf("P17.3: Take told false only %d times", refused)
	}
}

// TestAllSmall: every call, of all settings of small numbers, at levels around whole tokens.
func TestAllSmall(t *testing.T) {
	each := []int{-1, 0, 1, 2, 499, 500, 999, 1000, 1001}
	for _, call := range each {
		for _, tick := range each {
			for reserve := -1; reserve <= 3; reserve++ {
				for most := -1; most <= 3; most++ {
					s := api.BucketSet{Call: call, Tick: tick, Reserve: reserve, Cap: most}
					for level := -1000; level <= 4000; level += 500 {
						for _, n := range []int{-1, 0, 1, 2, 3} {
							agree(t, s, level-1, n)
							agree(t, s, level, n)
							agree(t, s, level+1, n)
						}
					}
					agreeOn(t, s, 1, 2, 3, 3, 2, 2, 1, 3, 1, 3, 3)
					agreeOn(t, s, 3, 3, 3, 3, 1)
				}
			}
		}
	}
}

// anyNumber is mostly one of a range, near its ends more often than not, and now and then far from it.
func anyNumber(r *rand.Rand, least, most int) int {
	switch r.Intn(60) {
	case 0:
		return least - 1
	case 1:
		return most + 1
	case 2:
		return far[r.Intn(len(far))]
	}
	near := max(min(5, most-least+1), 1)
	switch r.Intn(3) {
	case 0:
		return least + r.Intn(near)
	case 1:
		return most - r.Intn(near)
	}
	return least + r.Intn(max(most-least+1, 1))
}

// anyGood are settings that may be, mostly of few tokens.
func anyGood(r *rand.Rand) api.BucketSet {
	most := r.Intn(6)
	if r.Intn(4) == 0 {
		most = r.Intn(mostSet + 1)
	}
	return api.BucketSet{Call: r.Intn(mostSet + 1), Tick: r.Intn(mostSet + 1), Reserve: r.Intn(most + 1), Cap: most}
}

func anyActs(r *rand.Rand, n int) []int {
	l := make([]int, n)
	for i := range l {
		l[i] = 1 + r.Intn(3)
	}
	return l
}

func TestAllOfAny(t *testing.T) {
	r := rand.New(rand.NewSource(45))
	times, ran := map[api.Errno]int{}, map[api.Errno]int{}
	for range 100000 {
		s := api.BucketSet{Call: anyNumber(r, 0, mostSet), Tick: anyNumber(r, 0, mostSet), Cap: anyNumber(r, 0, mostSet)}
		s.Reserve = anyNumber(r, 0, min(max(s.Cap, 0), mostSet))
		level := anyNumber(r, 0, 1000*min(max(s.Cap, 0), mostSet))
		n := anyNumber(r, 0, mostCount)
		if r.Intn(2) == 0 {
			n = anyNumber(r, 0, 2000)
		}
		agree(t, s, level, n)
		_, e := bucket.Calls(s, level, n)
		times[e]++
		l := anyActs(r, r.Intn(40))
		if len(l) > 0 && r.Intn(4) == 0 {
			l[r.Intn(len(l))] = anyNumber(r, 1, 3)
		}
		agreeOn(t, s, l...)
		_, _, e = bucket.Run(s, l...)
		ran[e]++
	}
	for _, e := range []api.Errno{api.OK, api.ErrRange, api.ErrState, api.ErrCount} {
		if times[e] < 1000 {
			t.Errorf("P17.1: what Calls answered was too much of a kind: %v", times)
		}
	}
	if ran[api.OK] < 1000 || ran[api.ErrRange] < 1000 || ran[api.ErrKind] < 500 {
		t.Errorf("P17.2: what Run answered was too much of a kind: %v", ran)
	}
}

// TestNotChanged: what is handed in stays, with the room behind it.
func TestNotChanged(t *testing.T) {
	s, _, _ := ordinary()
	l := acts("xcxtxcxcxxxxxcctttt")
	l[18] = 9
	kept := slices.Clone(l)
	for n := range len(l) + 1 {
		bucket.Run(s, l[:n]...)
		bucket.Run(api.BucketSet{Call: -1}, l[:n]...)
	}
	if !slices.Equal(l, kept) {
		t.Errorf("P17.4: what is handed in is changed: %v, want %v", l, kept)
	}
}

// TestNotKept: calls know nothing of each other, nor of acts that are changed behind a call.
func TestNotKept(t *testing.T) {
	s, level, n := ordinary()
	l := acts("xcxtxcxcxxxxx")
	want, times, _ := bucket.Run(s, l...)
	same := slices.Clone(l)
	clear(l)
	other := api.BucketSet{Call: 1000, Tick: 1000, Reserve: 1000, Cap: 1000}
	bucket.Run(s, l...)
	bucket.Run(other, same...)
	bucket.Start(other)
	bucket.Calls(other, 5, 999)
	bucket.Take(other, mostLevel)
	agree(t, s, level, n)
	agree(t, other, level, n)
	agree(t, api.BucketSet{Cap: -1}, level, n)
	agree(t, s, level, n)
	if again, taken, e := bucket.Run(s, same...); again != want || taken != times || e != api.OK {
		t.Errorf("P17.4: Run hangs on the calls ahead: %d %d %d, want %d %d", again, taken, e, want, times)
	}
}

// TestAtOnce: goroutines that call at the same time are told what one is told.
func TestAtOnce(t *testing.T) {
	s, level, n := ordinary()
	l := anyActs(rand.New(rand.NewSource(46)), 200)
	type told struct {
		start, calls, ticks, left, ran, times int
		taken                                 bool
		wrong                                 [5]api.Errno
	}
	ask := func() told {
		var x told
		x.start, x.wrong[0] = bucket.Start(s)
		x.calls, x.wrong[1] = bucket.Calls(s, level, n)
		x.ticks, x.wrong[2] = bucket.Ticks(s, level, n)
		x.left, x.taken, x.wrong[3] = bucket.Take(s, level)
		x.ran, x.times, x.wrong[4] = bucket.Run(s, l...)
		return x
	}
	want := ask()
	got := make([]told, 16)
	var all sync.WaitGroup
	for i := range got {
		all.Go(func() {
			for range 50 {
				got[i] = ask()
			}
		})
	}
	all.Wait()
	for i, x := range got {
		if x != want {
			t.Errorf("P17.4: goroutine %d is told %v, want %v", i, x, want)
		}
	}
}

// FuzzBucket holds P17.1 to P17.3 for settings, levels, counts and acts of any kind; an octet is an act, of no kind by 4 of 256.
func FuzzBucket(f *testing.F) {
	f.Add(100, 20, 3, 8, 4321, 7, []byte{1, 2, 3, 3})
	f.Add(0, 0, 1, 2, 0, 0, []byte{3, 3})
	f.Add(mostSet, mostSet, mostSet, mostSet, mostLevel, mostCount, []byte{})
	f.Add(mostSet+1, -1, 2, 1, -1, -1, []byte{0})
	f.Add(math.MaxInt, math.MinInt, math.MaxInt, math.MaxInt, math.MaxInt, math.MaxInt, []byte{255})
	f.Fuzz(func(t *testing.T, call, tick, reserve, most, level, n int, octets []byte) {
		s := api.BucketSet{Call: call, Tick: tick, Reserve: reserve, Cap: most}
		l := make([]int, len(octets))
		calls, ticks := 0, 0
		for i, c := range octets {
			l[i] = int(c)%3 + 1
			if c >= 249 {
				l[i] = int(c) - 252
			}
			switch l[i] {
			case 1:
				calls++
			case 2:
				ticks++
			}
		}
		agree(t, s, level, n)
		agreeOn(t, s, l...)
		if _, times, e := bucket.Run(s, l...); e == api.OK && times > mayTake(s, calls, ticks) {
			t.Fatalf("P17.3: Run(%v, %v): %d tokens taken, but %d at most", s, l, times, mayTake(s, calls, ticks))
		}
	})
}
