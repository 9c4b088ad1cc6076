package window_test

import (
	"bytes"
	"maps"
	"math"
	"math/rand"
	"slices"
	"sync"
	"testing"

	"waybill/api"
	"waybill/window"
)

// The document's numbers, written out.
const (
	mostSize = 64
	mostMark = 1073741824
	mostCode = 1000
	mostData = 1024

	fresh  = 0
	done   = 1
	old    = 2
	beyond = 3
)

var (
	// farSizes are no sizes, farMarks no Marks, farCodes no Codes, farSeqs seqs that no window has.
	farSizes = []int{0, -1, -2, -64, math.MinInt32, -1 << 32, 2 - 1<<32, math.MinInt + 1, math.MinInt, mostSize + 1, mostSize + 2, 256, 1<<16 + 1, math.MaxInt32, 1 << 32, 1<<32 + 2, 1 << 62, math.MaxInt - 1, math.MaxInt}
	farMarks = []int{0, -1, -2, -mostMark, math.MinInt32, -1 << 32, 1 - 1<<32, math.MinInt + 1, math.MinInt, mostMark + 1, mostMark + 2, math.MaxInt32, 1 << 32, 1<<32 + 1, 1 << 62, math.MaxInt - 64, math.MaxInt}
	farCodes = []int{-1, -2, -1000, math.MinInt32, -1 << 32, 1 - 1<<32, math.MinInt, mostCode + 1, mostCode + 2, 1024, 1<<16 + 1, 1 << 32, 1<<32 + 1, math.MaxInt - 1, math.MaxInt}
	farSeqs  = []int{-1, -2, math.MinInt32, -1 << 32, 3 - 1<<32, math.MinInt + 1, math.MinInt + 64, math.MinInt, mostMark + mostSize, math.MaxInt32, 1 << 32, 1<<32 + 1, 1<<32 + 3, 1 << 62, math.MaxInt - 64, math.MaxInt - 1, math.MaxInt}
)

// slowCheck goes by the chapter's words, one after the other.
func slowCheck(w api.Window, size int) api.Errno {
	if size < 1 || size > mostSize {
		return api.ErrRange
	}
	if w.Mark < 1 || w.Mark > mostMark {
		return api.ErrState
	}
	for i, d := range w.Done {
		if i > 0 && d.Seq <= w.Done[i-1].Seq || d.Seq < w.Mark || d.Seq-w.Mark >= size || d.Code < 0 || d.Code > mostCode || len(d.Data) > mostData {
			return api.ErrState
		}
	}
	return api.OK
}

// slowSee looks at all that is done, one by one.
func slowSee(w api.Window, size, seq int) (int, api.Done, api.Errno) {
	if e := slowCheck(w, size); e != api.OK {
		return 0, api.Done{}, e
	}
	for _, d := range w.Done {
		if d.Seq == seq {
			return done, d, api.OK
		}
	}
	if seq < w.Mark {
		return old, api.Done{}, api.OK
	}
	if seq-w.Mark >= size {
		return beyond, api.Done{}, api.OK
	}
	return fresh, api.Done{}, api.OK
}

// slowPut lays what comes behind all, and puts it in its place in the end.
func slowPut(w api.Window, size int, l []api.Done) (api.Window, api.Errno) {
	if e := slowCheck(w, size); e != api.OK {
		return api.Window{}, e
	}
	all := slices.Clone(w.Done)
	for _, d := range l {
		switch {
		case d.Code < 0 || d.Code > mostCode:
			return api.Window{}, api.ErrRange
		case len(d.Data) > mostData:
			return api.Window{}, api.ErrLong
		case slices.ContainsFunc(all, func(x api.Done) bool { return x.Seq == d.Seq }):
			return api.Window{}, api.ErrTwice
		case d.Seq < w.Mark:
			return api.Window{}, api.ErrGone
		case d.Seq-w.Mark >= size:
			return api.Window{}, api.ErrFull
		}
		all = append(all, d)
	}
	slices.SortFunc(all, func(x, y api.Done) int { return x.Seq - y.Seq })
	return api.Window{Mark: w.Mark, Done: all}, api.OK
}

func slowForget(w api.Window, size, mark int) (api.Window, int, api.Errno) {
	if e := slowCheck(w, size); e != api.OK {
		return api.Window{}, 0, e
	}
	if mark > mostMark {
		return api.Window{}, 0, api.ErrRange
	}
	if mark <= w.Mark {
		return w, 0, api.OK
	}
	left := api.Window{Mark: mark}
	for _, d := range w.Done {
		if d.Seq >= mark {
			left.Done = append(left.Done, d)
		}
	}
	return left, len(w.Done) - len(left.Done), api.OK
}

// slowOpen sees all seqs of the window, and leaves those out behind which none is done.
func slowOpen(w api.Window, size int) ([]int, api.Errno) {
	if e := slowCheck(w, size); e != api.OK {
		return nil, e
	}
	var seqs []int
	for seq := w.Mark; seq < w.Mark+size; seq++ {
		kind, _, _ := slowSee(w, size, seq)
		if kind == fresh && slices.ContainsFunc(w.Done, func(d api.Done) bool { return d.Seq > seq }) {
			seqs = append(seqs, seq)
		}
	}
	return seqs, api.OK
}

func sameDone(a, b api.Done) bool {
	return a.Seq == b.Seq && a.Code == b.Code && bytes.Equal(a.Data, b.Data)
}

func same(a, b api.Window) bool {
	return a.Mark == b.Mark && slices.EqualFunc(a.Done, b.Done, sameDone)
}

func cloneAll(l []api.Done) []api.Done {
	l = slices.Clone(l)
	for i := range l {
		l[i].Data = bytes.Clone(l[i].Data)
	}
	return l
}

func clone(w api.Window) api.Window {
	w.Done = cloneAll(w.Done)
	return w
}

// agree holds the calls that take nothing beside a window and its size.
func agree(t *testing.T, w api.Window, size int) {
	t.Helper()
	wrong := slowCheck(w, size)
	if e := window.Check(w, size); e != wrong {
		t.Fatalf("P22.1: Check(%v, %d): %d, want %d", w, size, e, wrong)
	}
	want, _ := slowOpen(w, size)
	if seqs, e := window.Open(w, size); !slices.Equal(seqs, want) || e != wrong {
		t.Fatalf("P22.2: Open(%v, %d): %v %d, want %v %d", w, size, seqs, e, want, wrong)
	}
}

func agreeOnSee(t *testing.T, w api.Window, size int, seqs ...int) {
	t.Helper()
	for _, seq := range seqs {
		want, reply, wrong := slowSee(w, size, seq)
		if kind, d, e := window.See(w, size, seq); kind != want || !sameDone(d, reply) || e != wrong {
			t.Fatalf("P22.1: See(%v, %d, %d): %d %v %d, want %d %v %d", w, size, seq, kind, d, e, want, reply, wrong)
		}
	}
}

func agreeOnPut(t *testing.T, w api.Window, size int, l ...api.Done) {
	t.Helper()
	want, wrong := slowPut(w, size, l)
	if got, e := window.Put(w, size, l...); !same(got, want) || e != wrong {
		t.Fatalf("P22.1: Put(%v, %d, %v): %v %d, want %v %d", w, size, l, got, e, want, wrong)
	}
}

func agreeOnForget(t *testing.T, w api.Window, size int, marks ...int) {
	t.Helper()
	for _, mark := range marks {
		want, count, wrong := slowForget(w, size, mark)
		if got, n, e := window.Forget(w, size, mark); !same(got, want) || n != count || e != wrong {
			t.Fatalf("P22.2: Forget(%v, %d, %d): %v %d %d, want %v %d %d", w, size, mark, got, n, e, want, count, wrong)
		}
	}
}

// reply is one whose Code and Data tell its seq.
func reply(seq int) api.Done {
	return api.Done{Seq: seq, Code: (seq%(mostCode+1) + mostCode + 1) % (mostCode + 1), Data: []byte{byte(seq), byte(seq >> 8)}}
}

// made is a window of replies.
func made(mark int, seqs ...int) api.Window {
	w := api.Window{Mark: mark}
	for _, seq := range seqs {
		w.Done = append(w.Done, reply(seq))
	}
	return w
}

// row is a window in which so many seqs are done, from Mark on.
func row(mark, size int) api.Window {
	w := api.Window{Mark: mark}
	for i := range size {
		w.Done = append(w.Done, reply(mark+i))
	}
	return w
}

// with is a window with one reply.
func with(mark int, d api.Done) api.Window {
	return api.Window{Mark: mark, Done: []api.Done{d}}
}

// sized is a window, and a size that it may have.
type sized struct {
	api.Window
	size int
}

// rights are windows that may be.
func rights() []sized {
	l := []sized{
		{made(1), 1}, {made(1), mostSize}, {made(mostMark), 1}, {made(mostMark), mostSize}, {api.Window{Mark: 7, Done: []api.Done{}}, 3},
		{made(1, 1), 1}, {made(1, 2), 2}, {made(1, 1, 2), 2}, {made(1, 1, 3), 3}, {made(1, 2, 3), 3}, {made(1, 2), mostSize}, {made(1, 64), mostSize}, {made(1, 1, 64), mostSize},
		{made(5, 6, 9, 10, 14), 10}, {made(5, 5, 6, 7), 10}, {made(1000, 1001, 1003), 8}, {made(256, 256, 257), 2}, {made(65535, 65536, 65540), 64},
		{made(mostMark, mostMark), 1}, {made(mostMark, mostMark+63), 64}, {made(mostMark, mostMark, mostMark+1, mostMark+63), 64}, {made(mostMark-1, mostMark-1, mostMark), 2}, {made(mostMark-63, mostMark), 64},
		{with(1, api.Done{Seq: 1}), 1}, {with(1, api.Done{Seq: 1, Code: mostCode}), 1}, {with(4, api.Done{Seq: 5, Code: 3, Data: []byte{}}), 2}, {with(4, api.Done{Seq: 5, Code: 3, Data: make([]byte, mostData)}), 2}, {with(4, api.Done{Seq: 4, Data: bytes.Repeat([]byte{255}, mostData-1)}), 9},
	}
	for _, size := range []int{1, 2, 3, 8, 63, 64} {
		for _, mark := range []int{1, 2, 900, mostMark - 64, mostMark - 1, mostMark} {
			l = append(l, sized{row(mark, size), size}, sized{row(mark, size-1), size}, sized{row(mark, size/2), size})
		}
	}
	return l
}

// wrongs are windows that may not be, and what Check says of them.
func wrongs() map[api.Errno][]sized {
	l := map[api.Errno][]sized{}
	for _, size := range farSizes {
		// These are wrong in other ways, too, but for the first two.
		l[api.ErrRange] = append(l[api.ErrRange], sized{made(1), size}, sized{made(7, 8), size}, sized{api.Window{}, size}, sized{made(2, 1), size}, sized{with(1, api.Done{Seq: 1, Code: -1}), size}, sized{row(1, 100), size})
	}
	l[api.ErrState] = []sized{
		{api.Window{}, 1}, {made(0, 0), 1}, {made(0, 1), 2}, {made(-1, 1), 64},
		{made(1, 0), 1}, {made(1, 2), 1}, {made(1, 3), 2}, {made(1, 65), 64}, {made(5, 4), 64}, {made(5, 4, 5), 64}, {made(5, 5, 7), 2}, {made(mostMark, mostMark-1), 64}, {made(mostMark, mostMark+64), 64}, {made(mostMark, mostMark+1), 1},
		{made(1, 1, 1), 2}, {made(1, 2, 1), 2}, {made(1, 2, 2), 2}, {made(1, 1, 3, 2), 9}, {made(1, 1, 2, 2, 3), 9}, {made(1, 3, 4, 1), 9}, {made(5, 9, 5), 9},
		{row(1, 65), 64}, {row(1, 3), 2}, {row(1, 2), 1}, {row(1, 300), 64}, {row(mostMark, 65), 64},
		{with(1, api.Done{Seq: 1, Data: make([]byte, mostData+1)}), 1}, {with(1, api.Done{Seq: 2, Code: mostCode, Data: make([]byte, 2*mostData)}), 64}, {with(9, api.Done{Seq: 9, Data: make([]byte, 1<<16+1)}), 1},
		{api.Window{Mark: 3, Done: make([]api.Done, 1)}, 9}, {api.Window{Mark: 3, Done: make([]api.Done, 65)}, 64},
	}
	state := func(w api.Window, size int) {
		l[api.ErrState] = append(l[api.ErrState], sized{w, size})
	}
	for _, n := range farMarks {
		for _, size := range []int{1, 5, 64} {
			state(made(n), size)
			state(made(n, n), size)
			state(made(n, 1), size)
		}
	}
	for _, n := range farSeqs {
		for _, mark := range []int{1, 5, mostMark} {
			state(made(mark, n), 64)
			state(made(mark, mark, n), 64)
			state(made(mark, n, mark), 64)
		}
	}
	for _, n := range farCodes {
		state(with(1, api.Done{Seq: 1, Code: n}), 1)
		state(api.Window{Mark: 3, Done: []api.Done{reply(4), {Seq: 5, Code: n}, reply(6)}}, 9)
	}
	for place := range mostSize {
		code, data := row(9, mostSize), row(9, mostSize)
		code.Done[place].Code = mostCode + 1
		data.Done[place].Data = make([]byte, mostData+1)
		state(code, mostSize)
		state(data, mostSize)
		if place > 0 {
			twice := row(9, mostSize)
			twice.Done[place].Seq--
			state(twice, mostSize)
		}
	}
	return l
}

// about are seqs inside of a window and at its edges, and far ones.
func about(w sized) []int {
	var seqs []int
	for seq := w.Mark - 3; seq < w.Mark+w.size+3; seq++ {
		seqs = append(seqs, seq)
	}
	for _, d := range w.Done {
		seqs = append(seqs, d.Seq, d.Seq-1<<32, d.Seq+1<<32)
	}
	return append(append(seqs, farSeqs...), 0, 1, 2, mostMark-1, mostMark, mostMark+1)
}

// TestExamples: the chapter's.
func TestExamples(t *testing.T) {
	for _, c := range [][2]int{{1, fresh}, {2, fresh}, {3, beyond}} {
		if kind, d, e := window.See(window.New(), 2, c[0]); kind != c[1] || !sameDone(d, api.Done{}) || e != api.OK {
			t.Errorf("P22.1: See(New(), 2, %d): %d %v %d, want %d", c[0], kind, d, e, c[1])
		}
	}
}

func TestNew(t *testing.T) {
	for range 2 {
		w := window.New()
		if !same(w, api.Window{Mark: 1}) {
			t.Errorf("P22.1: New(): %v, want Mark 1", w)
		}
		for size := 1; size <= mostSize; size++ {
			agree(t, w, size)
			agreeOnSee(t, w, size, about(sized{w, size})...)
		}
	}
}

func TestRight(t *testing.T) {
	for _, w := range rights() {
		if e := window.Check(w.Window, w.size); e != api.OK {
			t.Errorf("P22.1: Check(%v, %d): %d, want %d", w.Window, w.size, e, api.OK)
		}
		agree(t, w.Window, w.size)
		agreeOnPut(t, w.Window, w.size)
		seqs := about(w)
		agreeOnSee(t, w.Window, w.size, seqs...)
		agreeOnForget(t, w.Window, w.size, seqs...)
		agreeOnForget(t, w.Window, w.size, farMarks...)
		for i, seq := range seqs {
			agreeOnPut(t, w.Window, w.size, reply(seq))
			agreeOnPut(t, w.Window, w.size, reply(seq), reply(seq))
			agreeOnPut(t, w.Window, w.size, reply(seqs[(i*7+3)%len(seqs)]), reply(seq))
			agreeOnPut(t, w.Window, w.size, api.Done{Seq: seq, Code: mostCode + 1, Data: make([]byte, mostData+1)})
			agreeOnPut(t, w.Window, w.size, api.Done{Seq: seq, Code: mostCode, Data: make([]byte, mostData+1)})
			agreeOnPut(t, w.Window, w.size, api.Done{Seq: seq, Code: mostCode, Data: make([]byte, mostData)})
			agreeOnPut(t, w.Window, w.size, api.Done{Seq: seq})
		}
		for size := -1; size < mostSize+3; size++ {
			agree(t, w.Window, size)
			agreeOnSee(t, w.Window, size, w.Mark, w.Mark+size-1, w.Mark+size)
		}
	}
}

// TestWrong: each call answers Check's error ahead of all others, and nothing beside it.
func TestWrong(t *testing.T) {
	for want, some := range wrongs() {
		for _, w := range some {
			shown := w
			shown.Done = shown.Done[:min(len(w.Done), 4)]
			if e := window.Check(w.Window, w.size); e != want || slowCheck(w.Window, w.size) != want {
				t.Errorf("P22.1: Check(%v): %d, want %d", shown, e, want)
			}
			for _, seq := range []int{1, w.Mark, w.Mark + 1, w.Mark + w.size, -5, math.MaxInt} {
				if kind, d, e := window.See(w.Window, w.size, seq); kind != 0 || !sameDone(d, api.Done{}) || e != want {
					t.Errorf("P22.1: See(%v, %d): %d %v %d, want none and %d", shown, seq, kind, d, e, want)
				}
			}
			for _, l := range [][]api.Done{nil, {{Seq: 1}}, {{Seq: 1, Code: -1}}, {{Seq: 1}, {Seq: 1}}, {{Seq: w.Mark, Data: make([]byte, mostData+1)}}, {{Seq: -1}}} {
				if got, e := window.Put(w.Window, w.size, l...); !same(got, api.Window{}) || e != want {
					t.Errorf("P22.1: Put(%v, ..): %v %d, want none and %d", shown, got, e, want)
				}
			}
			for _, mark := range []int{1, w.Mark, w.Mark + 1, -5, mostMark, mostMark + 1, math.MaxInt} {
				if got, n, e := window.Forget(w.Window, w.size, mark); !same(got, api.Window{}) || n != 0 || e != want {
					t.Errorf("P22.2: Forget(%v, %d): %v %d %d, want none and %d", shown, mark, got, n, e, want)
				}
			}
			if seqs, e := window.Open(w.Window, w.size); len(seqs) != 0 || e != want {
				t.Errorf("P22.2: Open(%v): %v %d, want none and %d", shown, seqs, e, want)
			}
		}
	}
}

func TestSee(t *testing.T) {
	w := made(5, 5, 7, 8)
	for _, c := range []struct{ seq, kind int }{
		{math.MinInt, old}, {-1, old}, {0, old}, {1, old}, {4, old}, {5, done}, {6, fresh}, {7, done}, {8, done}, {9, fresh}, {10, fresh}, {11, beyond}, {12, beyond}, {mostMark, beyond}, {1<<32 + 5, beyond}, {5 - 1<<32, old}, {math.MaxInt, beyond},
	} {
		var want api.Done
		if c.kind == done {
			want = reply(c.seq)
		}
		if kind, d, e := window.See(w, 6, c.seq); kind != c.kind || !sameDone(d, want) || e != api.OK {
			t.Errorf("P22.1: See(%v, 6, %d): %d %v %d, want %d %v", w, c.seq, kind, d, e, c.kind, want)
		}
	}
	long := api.Done{Seq: 6, Code: mostCode, Data: bytes.Repeat([]byte{1, 2, 3, 4}, mostData/4)}
	if kind, d, e := window.See(with(6, long), 1, 6); kind != done || !sameDone(d, long) || e != api.OK {
		t.Errorf("P22.1: See of the longest Data: %d %v %d", kind, d, e)
	}
}

func TestPut(t *testing.T) {
	w := made(5, 7)
	far, wide := make([]byte, mostData+1), make([]byte, mostData)
	for _, c := range []struct {
		l    []api.Done
		want api.Window
		e    api.Errno
	}{
		{nil, w, api.OK},
		{[]api.Done{reply(5)}, made(5, 5, 7), api.OK},
		{[]api.Done{reply(8)}, made(5, 7, 8), api.OK},
		{[]api.Done{reply(8), reply(6), reply(5)}, made(5, 5, 6, 7, 8), api.OK},
		{[]api.Done{{Seq: 5, Code: mostCode, Data: wide}}, api.Window{Mark: 5, Done: []api.Done{{Seq: 5, Code: mostCode, Data: wide}, reply(7)}}, api.OK},
		{[]api.Done{{Seq: 6}}, api.Window{Mark: 5, Done: []api.Done{{Seq: 6}, reply(7)}}, api.OK},
		{[]api.Done{{Seq: 5, Code: -1}}, api.Window{}, api.ErrRange},
		{[]api.Done{{Seq: 5, Code: mostCode + 1}}, api.Window{}, api.ErrRange},
		{[]api.Done{{Seq: 5, Data: far}}, api.Window{}, api.ErrLong},
		{[]api.Done{reply(7)}, api.Window{}, api.ErrTwice},
		{[]api.Done{reply(4)}, api.Window{}, api.ErrGone},
		{[]api.Done{reply(0)}, api.Window{}, api.ErrGone},
		{[]api.Done{reply(-1)}, api.Window{}, api.ErrGone},
		{[]api.Done{reply(9)}, api.Window{}, api.ErrFull},
		{[]api.Done{reply(math.MaxInt)}, api.Window{}, api.ErrFull},
		{[]api.Done{reply(math.MinInt)}, api.Window{}, api.ErrGone},
		// A Code goes ahead of Data, and both of where it would stand.
		{[]api.Done{{Seq: 5, Code: -1, Data: far}}, api.Window{}, api.ErrRange},
		{[]api.Done{{Seq: 7, Code: -1}}, api.Window{}, api.ErrRange},
		{[]api.Done{{Seq: 4, Code: 1001}}, api.Window{}, api.ErrRange},
		{[]api.Done{{Seq: 9, Code: 1001}}, api.Window{}, api.ErrRange},
		{[]api.Done{{Seq: 7, Data: far}}, api.Window{}, api.ErrLong},
		{[]api.Done{{Seq: 4, Data: far}}, api.Window{}, api.ErrLong},
		{[]api.Done{{Seq: 9, Data: far}}, api.Window{}, api.ErrLong},
		// They are put one by one, so that the first wrong one counts, and one that was put is done.
		{[]api.Done{reply(5), reply(5)}, api.Window{}, api.ErrTwice},
		{[]api.Done{reply(5), reply(6), reply(8), reply(5)}, api.Window{}, api.ErrTwice},
		{[]api.Done{reply(9), {Seq: 5, Code: -1}}, api.Window{}, api.ErrFull},
		{[]api.Done{reply(5), reply(5), {Seq: 5, Code: -1}}, api.Window{}, api.ErrTwice},
		{[]api.Done{reply(4), {Seq: 5, Data: far}}, api.Window{}, api.ErrGone},
		{[]api.Done{{Seq: 5, Data: far}, {Seq: 5, Code: -1}}, api.Window{}, api.ErrLong},
		{[]api.Done{reply(5), reply(9), reply(5)}, api.Window{}, api.ErrFull},
	} {
		if got, e := window.Put(w, 4, c.l...); !same(got, c.want) || e != c.e {
			t.Errorf("P22.1: Put(%v, 4, %v): %v %d, want %v %d", w, c.l, got, e, c.want, c.e)
		}
		agreeOnPut(t, w, 4, c.l...)
	}
	for _, mark := range []int{1, 300, mostMark} {
		var l []api.Done
		for i := range mostSize {
			l = append(l, reply(mark+i*37%mostSize))
		}
		if got, e := window.Put(made(mark), mostSize, l...); !same(got, row(mark, mostSize)) || e != api.OK {
			t.Errorf("P22.1: Put of all there may be: %v %d", got, e)
		}
		if got, e := window.Put(made(mark), mostSize, append(l, reply(mark+mostSize))...); !same(got, api.Window{}) || e != api.ErrFull {
			t.Errorf("P22.1: Put of one more than there may be: %v %d, want %d", got, e, api.ErrFull)
		}
	}
}

func TestForget(t *testing.T) {
	w := made(5, 5, 7, 8, 11)
	for _, c := range []struct {
		mark int
		want api.Window
		n    int
		e    api.Errno
	}{
		{math.MinInt, w, 0, api.OK}, {-1, w, 0, api.OK}, {0, w, 0, api.OK}, {1, w, 0, api.OK}, {4, w, 0, api.OK}, {5, w, 0, api.OK}, {1 - 1<<32, w, 0, api.OK},
		{6, made(6, 7, 8, 11), 1, api.OK}, {7, made(7, 7, 8, 11), 1, api.OK}, {8, made(8, 8, 11), 2, api.OK}, {9, made(9, 11), 3, api.OK}, {10, made(10, 11), 3, api.OK}, {11, made(11, 11), 3, api.OK}, {12, made(12), 4, api.OK}, {13, made(13), 4, api.OK}, {99, made(99), 4, api.OK},
		{mostMark - 1, made(mostMark - 1), 4, api.OK}, {mostMark, made(mostMark), 4, api.OK}, {mostMark + 1, api.Window{}, 0, api.ErrRange}, {math.MaxInt32, api.Window{}, 0, api.ErrRange}, {1<<32 + 7, api.Window{}, 0, api.ErrRange}, {math.MaxInt, api.Window{}, 0, api.ErrRange},
	} {
		if got, n, e := window.Forget(w, 7, c.mark); !same(got, c.want) || n != c.n || e != c.e {
			t.Errorf("P22.2: Forget(%v, 7, %d): %v %d %d, want %v %d %d", w, c.mark, got, n, e, c.want, c.n, c.e)
		}
	}
	for mark := 1; mark <= mostSize+2; mark++ {
		gone := min(mark-1, mostSize)
		want := row(1, mostSize)
		want.Mark, want.Done = mark, want.Done[gone:]
		if got, n, e := window.Forget(row(1, mostSize), mostSize, mark); !same(got, want) || n != gone || e != api.OK {
			t.Errorf("P22.2: Forget of %d: %v %d %d, want %v %d", mark, got, n, e, want, gone)
		}
	}
	if got, n, e := window.Forget(row(mostMark, mostSize), mostSize, mostMark); !same(got, row(mostMark, mostSize)) || n != 0 || e != api.OK {
		t.Errorf("P22.2: Forget of the greatest Mark: %v %d %d", got, n, e)
	}
}

func TestOpen(t *testing.T) {
	for _, c := range []struct {
		w    api.Window
		size int
		want []int
	}{
		{made(1), 64, nil}, {made(1, 1), 64, nil}, {made(1, 1, 2), 64, nil}, {made(1, 2), 64, []int{1}}, {made(1, 4), 4, []int{1, 2, 3}}, {made(1, 1, 4), 4, []int{2, 3}}, {made(1, 2, 4), 4, []int{1, 3}}, {made(1, 3, 4), 4, []int{1, 2}},
		{made(5, 6, 9, 10, 14), 10, []int{5, 7, 8, 11, 12, 13}}, {made(mostMark, mostMark+2), 3, []int{mostMark, mostMark + 1}}, {made(mostMark-1, mostMark-1, mostMark+1), 3, []int{mostMark}},
	} {
		if seqs, e := window.Open(c.w, c.size); !slices.Equal(seqs, c.want) || e != api.OK {
			t.Errorf("P22.2: Open(%v, %d): %v %d, want %v", c.w, c.size, seqs, e, c.want)
		}
	}
	for _, mark := range []int{1, mostMark} {
		var want []int
		for seq := mark; seq < mark+mostSize-1; seq++ {
			want = append(want, seq)
		}
		if seqs, e := window.Open(made(mark, mark+mostSize-1), mostSize); !slices.Equal(seqs, want) || e != api.OK {
			t.Errorf("P22.2: Open, of which the greatest is done: %v %d, want %v", seqs, e, want)
		}
	}
}

// TestAllSmall: all windows of the sizes 1 to 5, from three Marks on, with all that may be asked about them.
func TestAllSmall(t *testing.T) {
	for size := 1; size <= 5; size++ {
		for _, mark := range []int{1, 3, mostMark} {
			for set := range 1 << size {
				w := sized{made(mark), size}
				for i := range size {
					if set>>i&1 == 1 {
						w.Done = append(w.Done, reply(mark+i))
					}
				}
				smallOne(t, w)
			}
		}
	}
}

func smallOne(t *testing.T, w sized) {
	t.Helper()
	agree(t, w.Window, w.size)
	for x := w.Mark - 2; x < w.Mark+w.size+2; x++ {
		agreeOnSee(t, w.Window, w.size, x)
		agreeOnForget(t, w.Window, w.size, x)
		agreeOnPut(t, w.Window, w.size, reply(x))
		for y := w.Mark - 1; y < w.Mark+w.size+1; y++ {
			agreeOnPut(t, w.Window, w.size, reply(x), reply(y))
			for z := w.Mark - 1; z < w.Mark+w.size+1; z++ {
				agreeOnPut(t, w.Window, w.size, reply(x), reply(y), reply(z))
			}
			l := made(w.Mark, x, y)
			agree(t, l, w.size)
			agreeOnSee(t, l, w.size, x, y)
		}
	}
}

// anyWindow is one that may be.
func anyWindow(r *rand.Rand) sized {
	w := sized{api.Window{Mark: 1 + r.Intn(50)}, 1 + r.Intn(mostSize)}
	if r.Intn(4) == 0 {
		w.Mark = mostMark - r.Intn(50)
	}
	for seq := w.Mark; seq < w.Mark+w.size; seq++ {
		if r.Intn(3) > 0 {
			w.Done = append(w.Done, anyReply(r, seq))
		}
	}
	return w
}

func anyReply(r *rand.Rand, seq int) api.Done {
	d := api.Done{Seq: seq, Code: r.Intn(mostCode + 1)}
	if r.Intn(3) > 0 {
		d.Data = make([]byte, r.Intn(9))
		r.Read(d.Data)
	}
	return d
}

// spoilt is w with one thing wrong now and then.
func spoilt(r *rand.Rand, w sized) sized {
	w.Window = clone(w.Window)
	switch r.Intn(20) {
	case 0:
		w.size = farSizes[r.Intn(len(farSizes))]
	case 1:
		w.Mark = farMarks[r.Intn(len(farMarks))]
	case 2:
		w.Mark += r.Intn(5) - 2
	case 3:
		w.size += r.Intn(5) - 2
	}
	if len(w.Done) == 0 {
		return w
	}
	i, j := r.Intn(len(w.Done)), r.Intn(len(w.Done))
	switch r.Intn(25) {
	case 0:
		w.Done[i].Seq = farSeqs[r.Intn(len(farSeqs))]
	case 1:
		w.Done[i].Code = farCodes[r.Intn(len(farCodes))]
	case 2:
		w.Done[i].Data = make([]byte, mostData+r.Intn(2))
	case 3:
		w.Done[i].Seq = w.Done[j].Seq
	case 4:
		w.Done[i], w.Done[j] = w.Done[j], w.Done[i]
	}
	return w
}

// anyReplies are some of which the most may be put.
func anyReplies(r *rand.Rand, w sized) []api.Done {
	open := map[int]struct{}{}
	for seq := w.Mark; seq < w.Mark+max(min(w.size, mostSize), 0); seq++ {
		open[seq] = struct{}{}
	}
	for _, d := range w.Done {
		delete(open, d.Seq)
	}
	seqs := slices.Sorted(maps.Keys(open))
	r.Shuffle(len(seqs), func(i, j int) { seqs[i], seqs[j] = seqs[j], seqs[i] })
	var l []api.Done
	for _, seq := range seqs[:r.Intn(len(seqs)+1)] {
		l = append(l, anyReply(r, seq))
	}
	if len(l) == 0 {
		return l
	}
	i, j := r.Intn(len(l)), r.Intn(len(l))
	switch r.Intn(14) {
	case 0:
		l[i].Code = farCodes[r.Intn(len(farCodes))]
	case 1:
		l[i].Data = make([]byte, mostData+r.Intn(2))
	case 2:
		l[i].Seq = l[j].Seq
	case 3:
		l[i].Seq = w.Mark - 1 - r.Intn(9)
	case 4:
		l[i].Seq = w.Mark + w.size + r.Intn(9)
	case 5:
		l[i].Seq = farSeqs[r.Intn(len(farSeqs))]
	}
	return l
}

func TestAllOfAny(t *testing.T) {
	r := rand.New(rand.NewSource(220))
	checked, put, forgot, seen := map[api.Errno]int{}, map[api.Errno]int{}, map[api.Errno]int{}, map[int]int{}
	for range 8000 {
		w := spoilt(r, anyWindow(r))
		agree(t, w.Window, w.size)
		checked[window.Check(w.Window, w.size)]++
		seq := w.Mark + r.Intn(mostSize+9) - 4
		agreeOnSee(t, w.Window, w.size, seq, farSeqs[r.Intn(len(farSeqs))])
		kind, _, e := window.See(w.Window, w.size, seq)
		if e == api.OK {
			seen[kind]++
		}
		l := anyReplies(r, w)
		agreeOnPut(t, w.Window, w.size, l...)
		_, e = window.Put(w.Window, w.size, l...)
		put[e]++
		agreeOnForget(t, w.Window, w.size, seq)
		_, _, e = window.Forget(w.Window, w.size, seq)
		forgot[e]++
	}
	for _, e := range []api.Errno{api.OK, api.ErrRange, api.ErrState} {
		if checked[e] < 50 || put[e] < 50 || forgot[e] < 50 {
			t.Errorf("P22.1: what was answered was too much of a kind: %v %v %v", checked, put, forgot)
		}
	}
	if put[api.ErrLong] < 50 || put[api.ErrTwice] < 50 || put[api.ErrGone] < 50 || put[api.ErrFull] < 50 {
		t.Errorf("P22.1: what Put answered was too much of a kind: %v", put)
	}
	if seen[fresh] < 50 || seen[done] < 50 || seen[old] < 50 || seen[beyond] < 50 {
		t.Errorf("P22.1: what See answered was too much of a kind: %v", seen)
	}
}

// TestPieces: replies that are put in any order, one by one or all at once, make one window, and are told as they were put.
func TestPieces(t *testing.T) {
	r := rand.New(rand.NewSource(221))
	for range 1000 {
		w := anyWindow(r)
		order := cloneAll(w.Done)
		r.Shuffle(len(order), func(i, j int) { order[i], order[j] = order[j], order[i] })
		now := api.Window{Mark: w.Mark}
		for i, d := range order {
			next, e := window.Put(now, w.size, d)
			if e != api.OK {
				t.Fatalf("P22.1: Put(%v, %d, %v): %d", now, w.size, d, e)
			}
			now = next
			for _, d := range order[:i+1] {
				if kind, told, e := window.See(now, w.size, d.Seq); kind != done || !sameDone(told, d) || e != api.OK {
					t.Fatalf("P22.1: See(%v, %d, %d): %d %v %d, want %v", now, w.size, d.Seq, kind, told, e, d)
				}
			}
		}
		cut := r.Intn(len(order) + 1)
		half, e := window.Put(api.Window{Mark: w.Mark}, w.size, order[:cut]...)
		whole, wrong := window.Put(half, w.size, order[cut:]...)
		if !same(now, w.Window) || !same(whole, w.Window) || e != api.OK || wrong != api.OK {
			t.Fatalf("P22.1: %v, in pieces %v and %v; %d %d", w, now, whole, e, wrong)
		}
		a, b := min(w.Mark+r.Intn(w.size+3), mostMark), min(w.Mark+r.Intn(w.size+3), mostMark)
		one, n, _ := window.Forget(w.Window, w.size, a)
		two, m, _ := window.Forget(one, w.size, b)
		if all, k, e := window.Forget(w.Window, w.size, max(a, b)); !same(all, two) || k != n+m || e != api.OK {
			t.Fatalf("P22.2: Forget(%v, %d, %d): %v %d %d, in pieces %v %d", w.Window, w.size, max(a, b), all, k, e, two, n+m)
		}
	}
}

// kinds are the kinds of seqs from first on, as See tells them.
func kinds(t *testing.T, w api.Window, size, first, count int) []int {
	t.Helper()
	var l []int
	for seq := first; seq < first+count; seq++ {
		kind, _, e := window.See(w, size, seq)
		if e != api.OK {
			t.Fatalf("P22.1: See(%v, %d, %d): %d", w, size, seq, e)
		}
		l = append(l, kind)
	}
	return l
}

// onlyOn holds P22.3: a seq that is beyond may become new, one that is new done, one that is done old, and none goes back.
func onlyOn(t *testing.T, first int, was, is []int) {
	t.Helper()
	ranks := []int{beyond: 0, fresh: 1, done: 2, old: 3}
	for i := range was {
		if ranks[is[i]] < ranks[was[i]] {
			t.Fatalf("P22.3: %d was %d, and is %d", first+i, was[i], is[i])
		}
	}
}

// TestOldStaysOld: P22.3, over all rows of few acts.
func TestOldStaysOld(t *testing.T) {
	for size := 1; size <= 3; size++ {
		onAndOn(t, window.New(), size, 6)
	}
}

// onAndOn puts and forgets each of some seqs, and goes on from what comes of it.
func onAndOn(t *testing.T, w api.Window, size, depth int) {
	if depth == 0 {
		return
	}
	was := kinds(t, w, size, -1, 9)
	for seq := range 6 {
		put, e := window.Put(w, size, reply(seq))
		if was[seq+1] == fresh && e != api.OK || was[seq+1] != fresh && e == api.OK {
			t.Fatalf("P22.3: Put(%v, %d, %d): %d, and it was %d", w, size, seq, e, was[seq+1])
		}
		if e == api.OK {
			onlyOn(t, -1, was, kinds(t, put, size, -1, 9))
			onAndOn(t, put, size, depth-1)
		}
		left, _, e := window.Forget(w, size, seq)
		if e != api.OK {
			t.Fatalf("P22.2: Forget(%v, %d, %d): %d", w, size, seq, e)
		}
		onlyOn(t, -1, was, kinds(t, left, size, -1, 9))
		if left.Mark != w.Mark {
			onAndOn(t, left, size, depth-1)
		}
	}
}

// TestOldStaysOldForLong: P22.3, over long rows of any acts, at both ends of what a Mark may be.
func TestOldStaysOldForLong(t *testing.T) {
	r := rand.New(rand.NewSource(222))
	times := map[int]int{}
	for row := range 400 {
		w, size := window.New(), 1+r.Intn(mostSize)
		if row%4 == 0 {
			w.Mark = mostMark - r.Intn(100)
		}
		first := w.Mark - 2
		was := kinds(t, w, size, first, 200)
		for range 60 {
			next, e := window.Put(w, size, reply(w.Mark+r.Intn(size+4)-2))
			if r.Intn(6) == 0 {
				next, _, e = window.Forget(w, size, w.Mark+r.Intn(8)-2)
			}
			if e != api.OK {
				continue
			}
			w = next
			is := kinds(t, w, size, first, 200)
			onlyOn(t, first, was, is)
			was = is
		}
		for _, kind := range was {
			times[kind]++
		}
	}
	if times[fresh] < 1000 || times[done] < 1000 || times[old] < 1000 || times[beyond] < 1000 {
		t.Errorf("P22.3: what was seen was too much of a kind: %v", times)
	}
}

// marked has room behind its replies and their Data, which tells by -5 and 99 that nobody wrote there.
func marked(w api.Window) api.Window {
	w.Done = markedAll(w.Done)
	return w
}

func markedAll(l []api.Done) []api.Done {
	l = append(cloneAll(l), slices.Repeat([]api.Done{{Seq: -5, Code: -5}}, 3)...)[:len(l)]
	for i := range l {
		l[i].Data = append(bytes.Clone(l[i].Data), 99, 99)[:len(l[i].Data)]
	}
	return l
}

// roomStays tells if nobody wrote behind what was marked.
func roomStays(l []api.Done) bool {
	for _, d := range l {
		if !bytes.Equal(d.Data[len(d.Data):][:2], []byte{99, 99}) {
			return false
		}
	}
	return slices.EqualFunc(l[len(l):][:3], slices.Repeat([]api.Done{{Seq: -5, Code: -5}}, 3), sameDone)
}

// TestNotChanged: what is handed in stays, with the room behind it.
func TestNotChanged(t *testing.T) {
	all := rights()
	for _, some := range wrongs() {
		all = append(all, some...)
	}
	for _, w := range all {
		given := marked(w.Window)
		l := []api.Done{reply(w.Mark + 1), reply(w.Mark), reply(w.Mark + 3), reply(w.Mark + 2), reply(w.Mark - 1)}
		more := markedAll(l)
		window.Check(given, w.size)
		window.Open(given, w.size)
		for n := range l {
			window.Put(given, w.size, more[n:]...)
			window.Put(given, w.size, more[:n]...)
			window.Put(given, w.size, more[n:n+1]...)
		}
		for i := -1; i < 8; i++ {
			window.See(given, w.size, w.Mark+i)
			window.Forget(given, w.size, w.Mark+i)
		}
		window.Forget(given, w.size, mostMark)
		if !same(given, w.Window) || !slices.EqualFunc(more, l, sameDone) {
			t.Errorf("P22.4: what is handed in is changed: %v %v, want %v", given, more, w.Window)
		}
		if !roomStays(given.Done) || !roomStays(more) {
			t.Errorf("P22.4: the room behind %v and %v is changed", given, more)
		}
	}
}

// spoil and its like write over a list, to the end of its room.
func spoil(w api.Window) {
	l := w.Done[:cap(w.Done)]
	for i := range l {
		spoilData(l[i].Data)
		l[i] = api.Done{Seq: -77, Code: -77}
	}
}

func spoilData(b []byte) {
	b = b[:cap(b)]
	for i := range b {
		b[i] = 177
	}
}

func spoilSeqs(l []int) {
	l = l[:cap(l)]
	for i := range l {
		l[i] = -77
	}
}

// TestNewMemory: an answer that is written over changes no argument and no other answer, be it that nothing was to be done.
func TestNewMemory(t *testing.T) {
	for _, w := range rights() {
		given := marked(w.Window)
		for _, l := range [][]api.Done{nil, {reply(w.Mark)}, {reply(w.Mark + 1), reply(w.Mark)}, {reply(w.Mark + w.size - 1)}, {{Seq: w.Mark + w.size - 1, Data: make([]byte, mostData)}}} {
			want, wrong := slowPut(clone(w.Window), w.size, cloneAll(l))
			more := markedAll(l)
			for range 3 {
				got, e := window.Put(given, w.size, more...)
				if !same(got, want) || e != wrong || !slices.EqualFunc(more, l, sameDone) {
					t.Fatalf("P22.4: Put(%v, %d, %v) shares memory: %v %d, want %v", given, w.size, more, got, e, want)
				}
				spoil(got)
			}
		}
		for mark := w.Mark - 1; mark <= min(w.Mark+w.size, mostMark); mark++ {
			want, count, _ := slowForget(clone(w.Window), w.size, mark)
			for range 2 {
				got, n, e := window.Forget(given, w.size, mark)
				if !same(got, want) || n != count || e != api.OK {
					t.Fatalf("P22.4: Forget(%v, %d, %d) shares memory: %v %d %d, want %v", given, w.size, mark, got, n, e, want)
				}
				spoil(got)
			}
		}
		want, _ := slowOpen(w.Window, w.size)
		for range 2 {
			for _, d := range w.Done {
				kind, told, e := window.See(given, w.size, d.Seq)
				if kind != done || !sameDone(told, d) || e != api.OK {
					t.Fatalf("P22.4: See(%v, %d, %d) shares memory: %d %v %d", given, w.size, d.Seq, kind, told, e)
				}
				spoilData(told.Data)
			}
			seqs, e := window.Open(given, w.size)
			if !slices.Equal(seqs, want) || e != api.OK {
				t.Fatalf("P22.4: Open(%v, %d) shares memory: %v %d", given, w.size, seqs, e)
			}
			spoilSeqs(seqs)
			spoil(window.New())
		}
		if !same(given, w.Window) || !roomStays(given.Done) {
			t.Fatalf("P22.4: an answer shares memory with an argument: %v, want %v", given, w.Window)
		}
	}
	// No two lists of one answer share any, though two that came did.
	data := []byte{1, 2, 3}
	got, e := window.Put(api.Window{Mark: 1, Done: []api.Done{{Seq: 1, Data: data}, {Seq: 2, Data: data}}}, 9, api.Done{Seq: 3, Data: data}, api.Done{Seq: 4, Data: data})
	for i := range got.Done {
		spoilData(got.Done[i].Data)
		for _, d := range got.Done[i+1:] {
			if !bytes.Equal(d.Data, []byte{1, 2, 3}) || e != api.OK {
				t.Fatalf("P22.4: two lists of one answer share memory: %v %d", got, e)
			}
		}
	}
	if !bytes.Equal(data, []byte{1, 2, 3}) {
		t.Fatalf("P22.4: an answer shares memory with an argument: %v", data)
	}
}

// TestNotKept: what is changed behind a call changes no answer, and calls know nothing of each other.
func TestNotKept(t *testing.T) {
	ask := func(w api.Window, l []api.Done) (api.Window, api.Window, api.Done, []int) {
		put, _ := window.Put(w, 20, l...)
		left, _, _ := window.Forget(w, 20, w.Mark+2)
		_, told, _ := window.See(w, 20, w.Mark+4)
		open, _ := window.Open(w, 20)
		return put, left, told, open
	}
	w, l := made(7, 8, 10, 11), []api.Done{reply(9), reply(7)}
	put, left, told, open := ask(w, l)
	spoil(w)
	spoil(api.Window{Done: l})
	for range 2 {
		if !same(put, made(7, 7, 8, 9, 10, 11)) || !same(left, made(9, 10, 11)) || !sameDone(told, reply(11)) || !slices.Equal(open, []int{7, 9}) {
			t.Errorf("P22.4: what is handed in, or told by the calls ahead, is kept: %v %v %v %v", put, left, told, open)
		}
		ask(row(70, 9), []api.Done{reply(88)})
		window.Forget(window.New(), 1, mostMark)
		put, left, told, open = ask(made(7, 8, 10, 11), []api.Done{reply(9), reply(7)})
	}
}

// TestAtOnce: goroutines that call at the same time are told what one is told.
func TestAtOnce(t *testing.T) {
	w, l := made(50, 51, 53, 60, 99), []api.Done{reply(55), reply(50), reply(113)}
	type told struct {
		put, left api.Window
		reply     api.Done
		n, kind   int
		open      []int
		wrong     api.Errno
	}
	ask := func() told {
		var x told
		x.put, _ = window.Put(w, mostSize, l...)
		x.left, x.n, _ = window.Forget(w, mostSize, 60)
		x.kind, x.reply, _ = window.See(w, mostSize, 99)
		x.open, _ = window.Open(w, mostSize)
		x.wrong = window.Check(w, 9)
		return x
	}
	want := ask()
	got := make([]told, 16)
	var all sync.WaitGroup
	for i := range got {
		all.Go(func() {
			for range 50 {
				got[i] = ask()
			}
		})
	}
	all.Wait()
	for i, x := range got {
		if !same(x.put, want.put) || !same(x.left, want.left) || !sameDone(x.reply, want.reply) || x.n != want.n || x.kind != want.kind || !slices.Equal(x.open, want.open) || x.wrong != want.wrong {
			t.Errorf("P22.4: goroutine %d is told %v, want %v", i, x, want)
		}
	}
}

// FuzzWindow holds P22.1 to P22.3 for windows that are told by octets, and for numbers of any kind.
func FuzzWindow(f *testing.F) {
	f.Add([]byte{}, []byte{}, 0, 0, 0)
	f.Add([]byte{0, 1, 0, 2, 5, 3}, []byte{3, 1, 1, 2}, 1, 9, 2)
	f.Add([]byte{1, 250, 2, 251}, []byte{249, 252, 3, 253}, mostMark, 64, mostMark+1)
	f.Add([]byte{1, 2, 0, 4}, []byte{250, 0, 251, 0}, 5, 65, math.MaxInt)
	f.Add([]byte{2, 255, 3, 254}, []byte{252, 3, 253, 3}, math.MinInt, 5, math.MinInt)
	f.Fuzz(func(t *testing.T, b, c []byte, mark, size, seq int) {
		l := told(mark, c)
		for _, w := range []api.Window{{Mark: mark, Done: told(mark, b)}, {Mark: mark}, {Mark: 9, Done: told(9, b)}} {
			agree(t, w, size)
			agreeOnSee(t, w, size, seq, mark, w.Mark+seq%100, w.Mark+size)
			agreeOnPut(t, w, size, l...)
			agreeOnPut(t, w, size, reply(seq), reply(w.Mark+seq%70))
			agreeOnForget(t, w, size, seq, mark, w.Mark+seq%100)
			if window.Check(w, size) != api.OK {
				continue
			}
			was := kinds(t, w, size, w.Mark-3, 70)
			if put, e := window.Put(w, size, l...); e == api.OK {
				onlyOn(t, w.Mark-3, was, kinds(t, put, size, w.Mark-3, 70))
			}
			if left, _, e := window.Forget(w, size, seq); e == api.OK {
				onlyOn(t, w.Mark-3, was, kinds(t, left, size, w.Mark-3, 70))
			}
		}
	})
}

// told are replies of octets, a seq (by how far it is from the last one) and a Code or Data each; the greatest octets are numbers at the edges.
func told(mark int, b []byte) []api.Done {
	var l []api.Done
	last := mark
	for i := 0; i+1 < len(b); i += 2 {
		last += int(b[i])
		if b[i] >= 249 {
			last = []int{mark, mark - 1, mark + 63, mark + 64, math.MinInt, math.MaxInt, mostMark}[b[i]-249]
		}
		d := api.Done{Seq: last, Code: int(b[i+1])}
		if b[i+1] >= 249 {
			d = []api.Done{{Code: -1}, {Code: mostCode}, {Code: mostCode + 1}, {Data: make([]byte, mostData)}, {Data: make([]byte, mostData+1)}, {Code: -1, Data: make([]byte, mostData+1)}, {Code: math.MaxInt}}[b[i+1]-249]
			d.Seq = last
		}
		l = append(l, d)
	}
	return l
}
