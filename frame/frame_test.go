package frame_test

import (
	"bytes"
	"encoding/binary"
	"hash/crc32"
	"math"
	"math/rand"
	"slices"
	"testing"

	"waybill/api"
	"waybill/frame"
)

// most is MaxFrame, written out: the tests hold the chapter's number, not the program's.
const most = 4096

// framed is a frame by the words of the chapter.
func framed(payload []byte) []byte {
	b := binary.AppendUvarint(nil, uint64(len(payload)))
	b = append(b, payload...)
	return binary.LittleEndian.AppendUint32(b, crc32.ChecksumIEEE(b))
}

func stream(l ...[]byte) []byte {
	var b []byte
	for _, payload := range l {
		b = append(b, framed(payload)...)
	}
	return b
}

// forged is a frame of a length that a frame may not have, its sum right.
func forged(length uint64, payload []byte) []byte {
	b := binary.AppendUvarint(nil, length)
	b = append(b, payload...)
	return binary.LittleEndian.AppendUint32(b, crc32.ChecksumIEEE(b))
}

func noise(seed int64, size int) []byte {
	b := make([]byte, size)
	rand.New(rand.NewSource(seed)).Read(b)
	return b
}

// payloads are of the lengths at which something changes, and of all kinds of octets.
func payloads() [][]byte {
	l := [][]byte{{0}, {0xff}, []byte("a"), []byte("hello"), framed([]byte("in a frame"))}
	for _, size := range []int{1, 2, 4, 5, 126, 127, 128, 129, 255, 256, 1000, most - 1, most} {
		l = append(l, noise(int64(size), size), make([]byte, size), bytes.Repeat([]byte{0xff}, size))
	}
	return l
}

func same(a [][]byte, b [][]byte) bool {
	return slices.EqualFunc(a, b, bytes.Equal)
}

func TestPut(t *testing.T) {
	if b, e := frame.Put(nil, []byte("a")); string(b) != "\x01a\x70\x72\x77\x62" || e != api.OK {
		t.Errorf("P3.1: Put of a: % x %d", b, e)
	}
	for _, payload := range payloads() {
		if b, e := frame.Put(nil, payload); !bytes.Equal(b, framed(payload)) || e != api.OK {
			t.Errorf("P3.1: Put of %d octets: %d of them, error %d", len(payload), len(b), e)
		}
		if b, e := frame.Put([]byte("ahead"), payload); !bytes.Equal(b, append([]byte("ahead"), framed(payload)...)) || e != api.OK {
			t.Errorf("P3.1: Put of %d octets behind others: %d of them, error %d", len(payload), len(b), e)
		}
	}
	want := append([]byte("ahead"), stream(payloads()...)...)
	if b, e := frame.Put([]byte("ahead"), payloads()...); !bytes.Equal(b, want) || e != api.OK {
		t.Errorf("P3.1: Put of several: %d octets of %d, error %d", len(b), len(want), e)
	}
	for _, ahead := range [][]byte{nil, {}, {0}, []byte("ahead")} {
		if b, e := frame.Put(ahead); !bytes.Equal(b, ahead) || e != api.OK {
			t.Errorf("P3.1: Put(% x) of none: % x %d", ahead, b, e)
		}
		if b, e := frame.Put(ahead, [][]byte{}...); !bytes.Equal(b, ahead) || e != api.OK {
			t.Errorf("P3.1: Put(% x) of an empty list: % x %d", ahead, b, e)
		}
	}
}

func TestPutErrors(t *testing.T) {
	good, full, long := []byte("a"), make([]byte, most), make([]byte, most+1)
	for i, c := range []struct {
		l    [][]byte
		want api.Errno
	}{
		{[][]byte{nil}, api.ErrShort},
		{[][]byte{{}}, api.ErrShort},
		{[][]byte{good, nil}, api.ErrShort},
		{[][]byte{{}, good}, api.ErrShort},
		{[][]byte{good, {}, good}, api.ErrShort},
		{[][]byte{long}, api.ErrLong},
		{[][]byte{make([]byte, 1<<20)}, api.ErrLong},
		{[][]byte{good, long}, api.ErrLong},
		{[][]byte{long, good}, api.ErrLong},
		{[][]byte{nil, long}, api.ErrShort},
		{[][]byte{long, nil}, api.ErrShort},
		{[][]byte{good, long, good, {}, good}, api.ErrShort},
		{[][]byte{full, good}, api.OK},
	} {
		for _, ahead := range [][]byte{nil, []byte("ahead")} {
			b, e := frame.Put(ahead, c.l...)
			if e != c.want || e != api.OK && len(b) != 0 {
				t.Errorf("P3.1: Put %d: %d octets, error %d, want %d", i, len(b), e, c.want)
			}
		}
	}
}

func TestGet(t *testing.T) {
	for _, payload := range payloads() {
		whole := framed(payload)
		for _, behind := range [][]byte{nil, {0}, {0xff, 0xff}, framed([]byte("next")), make([]byte, 9000)} {
			b, n, e := frame.Get(slices.Concat(whole, behind))
			if !bytes.Equal(b, payload) || n != len(whole) || e != api.OK {
				t.Errorf("P3.1: Get of %d octets with %d behind them: %d octets, %d, error %d", len(payload), len(behind), len(b), n, e)
			}
		}
	}
}

func TestGetTooEarly(t *testing.T) {
	for _, b := range [][]byte{nil, {}} {
		if p, n, e := frame.Get(b); len(p) != 0 || n != 0 || e != api.ErrNone {
			t.Errorf("P3.1: Get of nothing: % x %d %d", p, n, e)
		}
	}
	for _, payload := range payloads() {
		whole := framed(payload)
		for size := range whole {
			if p, n, e := frame.Get(whole[:size]); len(p) != 0 || n != 0 || e != api.ErrNone {
				t.Fatalf("P3.1: Get of %d octets of a frame of %d: %d octets, %d, error %d", size, len(whole), len(p), n, e)
			}
		}
	}
	// Within a length nothing is told of it, even if it is going to be too long.
	for size := 1; size <= 9; size++ {
		if p, n, e := frame.Get(bytes.Repeat([]byte{0xff}, size)); len(p) != 0 || n != 0 || e != api.ErrNone {
			t.Errorf("P3.1: Get of %d octets of a length: %d octets, %d, error %d", size, len(p), n, e)
		}
	}
}

// wrong are octets that no frame begins with, by the error that tells so.
func wrong() map[api.Errno][][]byte {
	lengths := func(behind []byte, l ...uint64) [][]byte {
		var out [][]byte
		for _, n := range l {
			out = append(out, append(binary.AppendUvarint(nil, n), behind...))
		}
		return out
	}
	long := []uint64{most + 1, most + 2, 8192, 1 << 14, 1 << 31, 1 << 32, 1<<32 + 1, math.MaxInt, math.MaxInt + 1, math.MaxUint64 - 3, math.MaxUint64}
	turned := framed([]byte("a"))
	turned[1] = 'b'
	swapped := framed([]byte("a"))
	slices.Reverse(swapped[2:])
	payloadAlone := binary.LittleEndian.AppendUint32([]byte{1, 'a'}, crc32.ChecksumIEEE([]byte("a")))
	return map[api.Errno][][]byte{
		api.ErrShort: {{0}, {0, 0}, {0, 1, 'a'}, forged(0, nil), append([]byte{0}, framed([]byte("a"))...)},
		api.ErrLong:  append(append(lengths(nil, long...), lengths(make([]byte, 9000), long...)...), forged(most+1, make([]byte, most+1))),
		api.ErrCorrupt: {
			turned, swapped, payloadAlone, {1, 'a', 0, 0, 0, 0},
			append(turned, framed([]byte("a"))...),
			// A length in more octets than it needs, with the sum of just these.
			binary.LittleEndian.AppendUint32([]byte{0x81, 0, 'a'}, crc32.ChecksumIEEE([]byte{0x81, 0, 'a'})),
			{0x80, 0}, {0x81, 0}, {0xff, 0x80, 0},
			bytes.Repeat([]byte{0xff}, 10), bytes.Repeat([]byte{0xff}, 11), bytes.Repeat([]byte{0xff}, 20),
			append(bytes.Repeat([]byte{0xff}, 9), 2),
		},
	}
}

func TestGetErrors(t *testing.T) {
	for want, l := range wrong() {
		for _, b := range l {
			if p, n, e := frame.Get(b); len(p) != 0 || n != 0 || e != want {
				t.Errorf("P3.1: Get(% .20x): % x, %d, error %d, want %d", b, p, n, e, want)
			}
		}
	}
}

func TestScan(t *testing.T) {
	for _, b := range [][]byte{nil, {}, {1}, {0x80}, framed([]byte("abc"))[:7]} {
		if l, n, e := frame.Scan(b); len(l) != 0 || n != 0 || e != api.OK {
			t.Errorf("P3.1: Scan(% x): % x %d %d", b, l, n, e)
		}
	}
	whole := stream(payloads()...)
	if l, n, e := frame.Scan(whole); !same(l, payloads()) || n != len(whole) || e != api.OK {
		t.Errorf("P3.1: Scan of %d payloads in %d octets: %d, %d, error %d", len(payloads()), len(whole), len(l), n, e)
	}
	some := [][]byte{[]byte("a"), []byte("bcd"), []byte("e")}
	whole = stream(some...)
	for size := range len(whole) + 1 {
		var want [][]byte
		took := 0
		for _, payload := range some {
			if took+len(framed(payload)) > size {
				break
			}
			want = append(want, payload)
			took += len(framed(payload))
		}
		if l, n, e := frame.Scan(whole[:size]); !same(l, want) || n != took || e != api.OK {
			t.Errorf("P3.1: Scan of %d of %d octets: % x, %d, error %d", size, len(whole), l, n, e)
		}
	}
}

func TestScanErrors(t *testing.T) {
	for want, faults := range wrong() {
		for _, fault := range faults {
			for ahead := range 4 {
				good := payloads()[:ahead]
				b := append(stream(good...), fault...)
				l, n, e := frame.Scan(b)
				if !same(l, good) || n != len(stream(good...)) || e != want {
					t.Errorf("P3.1: Scan of %d frames and % .20x: %d, %d, error %d, want %d", ahead, fault, len(l), n, e, want)
				}
			}
		}
	}
}

func TestCheck(t *testing.T) {
	full := framed(make([]byte, most))
	for i, held := range [][]byte{nil, {}, {1}, {1, 'a'}, {0x80}, bytes.Repeat([]byte{0xff}, 9), {0x80, 0x20}, full[:1], full[:len(full)-1], append([]byte{100}, framed([]byte("a"))...)} {
		if e := frame.Check(frame.Buffer{Held: held}); e != api.OK {
			t.Errorf("P3.2: Check %d: error %d", i, e)
		}
		want := api.OK
		if len(held) > 0 {
			want = api.ErrState
		}
		if e := frame.Check(frame.Buffer{Held: held, Lost: true}); e != want {
			t.Errorf("P3.2: Check %d, lost: error %d, want %d", i, e, want)
		}
	}
	wrongs := [][]byte{full, append(full, 1), framed([]byte("a")), append(framed([]byte("a")), 1), stream(payloads()...), make([]byte, 8192), make([]byte, 8193), make([]byte, 1<<20), append([]byte{0x80, 0x20}, make([]byte, 8191)...)}
	for _, l := range wrong() {
		wrongs = append(wrongs, l...)
	}
	for i, held := range wrongs {
		for _, lost := range []bool{false, true} {
			if e := frame.Check(frame.Buffer{Held: held, Lost: lost}); e != api.ErrState {
				t.Errorf("P3.2: Check of %d octets (%d, lost %t): error %d", len(held), i, lost, e)
			}
		}
	}
}

func TestFeed(t *testing.T) {
	next := framed([]byte("next"))
	for i, c := range []struct {
		f      frame.Buffer
		pieces [][]byte
		held   []byte
		want   string
	}{
		{frame.Buffer{}, nil, nil, ""},
		{frame.Buffer{}, [][]byte{nil, {}}, nil, ""},
		{frame.Buffer{}, [][]byte{next}, nil, "next"},
		{frame.Buffer{}, [][]byte{next[:4], next[4:]}, nil, "next"},
		{frame.Buffer{}, [][]byte{nil, next[:4], {}, nil, next[4:], nil}, nil, "next"},
		{frame.Buffer{}, [][]byte{next[:4]}, next[:4], ""},
		{frame.Buffer{}, [][]byte{slices.Concat(next, next, next[:1])}, next[:1], "nextnext"},
		{frame.Buffer{Held: next[:4]}, nil, next[:4], ""},
		{frame.Buffer{Held: next[:4]}, [][]byte{nil}, next[:4], ""},
		{frame.Buffer{Held: next[:4]}, [][]byte{next[4:6]}, next[:6], ""},
		{frame.Buffer{Held: next[:4]}, [][]byte{next[4:]}, nil, "next"},
		{frame.Buffer{Held: next[:8]}, [][]byte{slices.Concat(next[8:], next, next[:8])}, next[:8], "nextnext"},
		{frame.Buffer{Held: []byte{}}, [][]byte{next}, nil, "next"},
	} {
		f, l, e := frame.Feed(c.f, c.pieces...)
		if !bytes.Equal(f.Held, c.held) || f.Lost || string(bytes.Join(l, nil)) != c.want || len(l) != len(c.want)/4 || e != api.OK {
			t.Errorf("P3.2: Feed %d: % x, %q, error %d", i, f.Held, l, e)
		}
		if e := frame.Check(f); e != api.OK {
			t.Errorf("P3.2: Feed %d answers what Check tells of: %d", i, e)
		}
	}
}

func TestFeedOfWhatMayNotBe(t *testing.T) {
	for _, f := range []frame.Buffer{
		{Held: framed([]byte("a"))},
		{Held: []byte{0}},
		{Held: []byte{0x81, 0}},
		{Held: []byte{1}, Lost: true},
		{Held: make([]byte, 8193)},
	} {
		for _, pieces := range [][][]byte{nil, {nil}, {framed([]byte("b"))}, {{0}}} {
			if g, l, e := frame.Feed(f, pieces...); len(g.Held) != 0 || g.Lost || len(l) != 0 || e != api.ErrState {
				t.Errorf("P3.2: Feed of %d octets, lost %t: %v, % x, error %d", len(f.Held), f.Lost, g, l, e)
			}
		}
	}
}

func TestFeedLoses(t *testing.T) {
	good := framed([]byte("good"))
	for want, faults := range wrong() {
		for i, fault := range faults {
			half := len(fault) / 2
			for j, pieces := range [][][]byte{
				{good, fault},
				{append(slices.Clone(good), fault...)},
				{good[:3], append(slices.Clone(good[3:]), fault[:half]...), fault[half:]},
				{good, fault, good},
				{good, append(slices.Clone(fault), good...), nil, good, good[:4]},
				// A fault of another kind, behind the first, is not seen any more.
				{good, fault, {0}, forged(5000, nil), {0x80, 0}},
			} {
				f, l, e := frame.Feed(frame.Buffer{}, pieces...)
				if !f.Lost || len(f.Held) != 0 || !same(l, [][]byte{[]byte("good")}) || e != want {
					t.Errorf("P3.2: Feed with fault %d of error %d, way %d: %v, %q, error %d", i, want, j, f, l, e)
				}
			}
		}
	}
}

func TestFeedOfWhatIsLost(t *testing.T) {
	good := framed([]byte("good"))
	for i, c := range []struct {
		pieces [][]byte
		want   api.Errno
	}{
		{nil, api.OK},
		{[][]byte{nil}, api.OK},
		{[][]byte{{}, nil, {}}, api.OK},
		{[][]byte{good}, api.ErrCorrupt},
		{[][]byte{{0}}, api.ErrCorrupt},
		{[][]byte{forged(5000, nil)}, api.ErrCorrupt},
		{[][]byte{nil, {1}}, api.ErrCorrupt},
		{[][]byte{good, nil}, api.ErrCorrupt},
		{[][]byte{{0}, good, {0}}, api.ErrCorrupt},
	} {
		for _, held := range [][]byte{nil, {}} {
			f, l, e := frame.Feed(frame.Buffer{Held: held, Lost: true}, c.pieces...)
			if !f.Lost || len(f.Held) != 0 || len(l) != 0 || e != c.want {
				t.Errorf("P3.2: Feed %d of a lost one: %v, %q, error %d, want %d", i, f, l, e, c.want)
			}
		}
	}
}

// slowGet is Get by the words of the chapter: -1 for a frame that is whole.
func slowGet(b []byte) ([]byte, int, api.Errno) {
	length, at := uint64(0), 0
	for ; ; at++ {
		if at == len(b) {
			return nil, 0, api.ErrNone
		}
		if at > 0 && b[at] == 0 || at == 9 && b[at] > 1 {
			return nil, 0, api.ErrCorrupt
		}
		length += uint64(b[at]&127) << (7 * at)
		if b[at] < 128 {
			break
		}
	}
	at++
	if length == 0 {
		return nil, 0, api.ErrShort
	}
	if length > most {
		return nil, 0, api.ErrLong
	}
	if uint64(len(b)) < uint64(at)+length+4 {
		return nil, 0, api.ErrNone
	}
	whole := framed(b[at : at+int(length)])
	if !bytes.HasPrefix(b, whole) {
		return nil, 0, api.ErrCorrupt
	}
	return bytes.Clone(b[at : at+int(length)]), len(whole), -1
}

// slowFeed is Feed by the words of the chapter, over all octets at once: P3.3 lets the pieces' borders not count.
func slowFeed(f frame.Buffer, pieces ...[]byte) (frame.Buffer, [][]byte, api.Errno) {
	more := bytes.Join(pieces, nil)
	if f.Lost && len(more) > 0 {
		return frame.Buffer{Lost: true}, nil, api.ErrCorrupt
	}
	b := append(bytes.Clone(f.Held), more...)
	var l [][]byte
	for {
		payload, size, e := slowGet(b)
		switch e {
		case -1:
			l = append(l, payload)
			b = b[size:]
		case api.ErrNone:
			return frame.Buffer{Held: b, Lost: f.Lost}, l, api.OK
		default:
			return frame.Buffer{Lost: true}, l, e
		}
	}
}

func cut(r *rand.Rand, b []byte) [][]byte {
	var l [][]byte
	for len(b) > 0 {
		n := min(r.Intn(1+r.Intn(2000)), len(b))
		l = append(l, b[:n])
		b = b[n:]
	}
	return l
}

func TestPayloadsInAnyPieces(t *testing.T) {
	some := [][]byte{[]byte("a"), []byte("bcd"), noise(1, 130)}
	whole := stream(some...)
	for i := range len(whole) + 1 {
		for j := i; j <= len(whole); j++ {
			f, l, e := frame.Feed(frame.Buffer{}, whole[:i], whole[i:j], whole[j:])
			if len(f.Held) != 0 || f.Lost || !same(l, some) || e != api.OK {
				t.Fatalf("P3.3: cut at %d and %d: %v, %d payloads, error %d", i, j, f, len(l), e)
			}
		}
	}
	whole = stream(payloads()...)
	r := rand.New(rand.NewSource(5))
	for range 50 {
		b, e := frame.Put(nil, payloads()...)
		if e != api.OK || !bytes.Equal(b, whole) {
			t.Fatal("P3.3: Put:", e)
		}
		// Pieces one by one in one call, and in as many calls as there are.
		f, l, e := frame.Feed(frame.Buffer{}, cut(r, b)...)
		if len(f.Held) != 0 || f.Lost || !same(l, payloads()) || e != api.OK {
			t.Fatalf("P3.3: in one call: %v, %d payloads, error %d", f, len(l), e)
		}
		f, l = frame.Buffer{}, nil
		for _, piece := range cut(r, b) {
			g, m, e := frame.Feed(f, piece)
			if e != api.OK || frame.Check(g) != api.OK {
				t.Fatalf("P3.3: call by call: error %d, %d octets held", e, len(g.Held))
			}
			f, l = g, append(l, m...)
		}
		if len(f.Held) != 0 || f.Lost || !same(l, payloads()) {
			t.Fatalf("P3.3: call by call: %v, %d payloads", f, len(l))
		}
	}
}

func TestOctetByOctet(t *testing.T) {
	whole := stream(payloads()...)
	var pieces [][]byte
	for i := range whole {
		pieces = append(pieces, whole[i:i+1])
	}
	f, l, e := frame.Feed(frame.Buffer{}, pieces...)
	if len(f.Held) != 0 || f.Lost || !same(l, payloads()) || e != api.OK {
		t.Errorf("P3.3: octet by octet: %v, %d payloads, error %d", f, len(l), e)
	}
}

func TestFaultsInAnyPieces(t *testing.T) {
	r := rand.New(rand.NewSource(6))
	for range 3000 {
		var b []byte
		for range r.Intn(5) {
			b = append(b, framed(noise(r.Int63(), 1+r.Intn(300)))...)
		}
		for range r.Intn(3) {
			if len(b) > 0 {
				b[r.Intn(len(b))] ^= byte(1 << r.Intn(8))
			}
		}
		b = b[:len(b)-r.Intn(len(b)/4+1)]
		pieces := cut(r, b)
		f, l, e := frame.Feed(frame.Buffer{}, pieces...)
		g, m, want := slowFeed(frame.Buffer{}, pieces...)
		if !bytes.Equal(f.Held, g.Held) || f.Lost != g.Lost || !same(l, m) || e != want {
			t.Fatalf("P3.2: Feed of % x: %v, %d payloads, error %d, want %v, %d, %d", b, f, len(l), e, g, len(m), want)
		}
	}
}

func TestTurnedOctetsAreTold(t *testing.T) {
	for _, payload := range payloads() {
		whole := framed(payload)
		length := len(whole) - len(payload) - 4
		for at := length; at < len(whole); at++ {
			// All the ways to turn an octet, where that is not too much; else another one at each place.
			step := min(1+len(whole)/8, 255)
			for turn := 1 + at%step; turn < 256; turn += step {
				b := bytes.Clone(whole)
				b[at] ^= byte(turn)
				if p, n, e := frame.Get(b); len(p) != 0 || n != 0 || e != api.ErrCorrupt {
					t.Fatalf("P3.4: octet %d of %d turned by %x: error %d", at, len(whole), turn, e)
				}
				if len(whole) > 200 {
					continue
				}
				f, l, e := frame.Feed(frame.Buffer{}, b[:at], b[at:])
				if !f.Lost || len(l) != 0 || e != api.ErrCorrupt {
					t.Fatalf("P3.4: octet %d of %d turned by %x: Feed: %v, error %d", at, len(whole), turn, f, e)
				}
			}
		}
	}
}

// FuzzFeed holds P3.1 to P3.3 for octets of any kind.
func FuzzFeed(f *testing.F) {
	f.Add([]byte{}, false, framed([]byte("a")), 3)
	f.Add([]byte{1}, false, []byte("a\x70\x72\x77\x62\x00"), 1)
	f.Add([]byte{}, true, []byte{0}, 0)
	f.Fuzz(func(t *testing.T, held []byte, lost bool, more []byte, at int) {
		p, n, e := frame.Get(more)
		if q, m, want := slowGet(more); !bytes.Equal(p, q) || n != m || e != max(want, api.OK) {
			t.Errorf("P3.1: Get(% x): % x, %d, error %d", more, p, n, e)
		}
		buffer := frame.Buffer{Held: held, Lost: lost}
		at = min(max(at, 0), len(more))
		g, l, e := frame.Feed(buffer, more[:at], more[at:])
		_, _, begin := slowGet(held)
		if begin != api.ErrNone || lost && len(held) > 0 {
			if frame.Check(buffer) != api.ErrState || e != api.ErrState || len(l) != 0 || g.Lost || len(g.Held) != 0 {
				t.Errorf("P3.2: Feed of what may not be: %v, % x, error %d", g, l, e)
			}
			return
		}
		h, m, want := slowFeed(buffer, more)
		if !bytes.Equal(g.Held, h.Held) || g.Lost != h.Lost || !same(l, m) || e != want || frame.Check(g) != api.OK {
			t.Errorf("P3.2: Feed(%v, % x, % x): %v, % x, error %d", buffer, more[:at], more[at:], g, l, e)
		}
	})
}

// roomy answers a slice with room behind it, and the whole of what lies under it.
func roomy(b []byte) ([]byte, []byte) {
	whole := append(bytes.Clone(b), bytes.Repeat([]byte{0xee}, 64)...)
	return whole[:len(b)], whole
}

func spoil(b []byte) {
	b = b[:cap(b)]
	for i := range b {
		b[i] ^= 0xff
	}
}

func clones(l [][]byte) [][]byte {
	out := make([][]byte, len(l))
	for i := range l {
		out[i] = bytes.Clone(l[i])
	}
	return out
}

// apart spoils the lists one by one, and tells if another one is hit by that, or one that stays.
func apart(stays [][]byte, l ...[]byte) bool {
	all := append(slices.Clone(stays), l...)
	for i := range l {
		before := clones(all)
		spoil(l[i])
		for j := range all {
			if j != len(stays)+i && !bytes.Equal(all[j], before[j]) {
				return false
			}
		}
	}
	return true
}

func TestMemoryOfPut(t *testing.T) {
	b, whole := roomy([]byte("ahead"))
	payload, under := roomy([]byte("payload"))
	for _, l := range [][][]byte{nil, {payload}, {payload, payload}} {
		before, list := clones([][]byte{whole, under}), clones(l)
		one, _ := frame.Put(b, l...)
		two, _ := frame.Put(b, l...)
		if !same([][]byte{whole, under}, before) || !same(l, list) {
			t.Error("P3.5: Put changes what it is given")
		}
		if !apart([][]byte{whole, under}, one, two) {
			t.Error("P3.5: Put shares memory")
		}
	}
}

func TestMemoryOfGetAndScan(t *testing.T) {
	b, whole := roomy(stream([]byte("one"), []byte("two"), []byte("three")))
	before := bytes.Clone(whole)
	p, _, _ := frame.Get(b)
	q, _, _ := frame.Get(b)
	l, _, _ := frame.Scan(b)
	m, _, _ := frame.Scan(b)
	if !bytes.Equal(whole, before) {
		t.Error("P3.5: Get or Scan changes what it is given")
	}
	if !apart([][]byte{whole}, append(append(slices.Clone(l), m...), p, q)...) {
		t.Error("P3.5: Get or Scan shares memory")
	}
	l[0] = nil
	if string(m[0]) == "" {
		t.Error("P3.5: Scan hands one list out twice")
	}
}

func TestMemoryOfFeed(t *testing.T) {
	next := framed([]byte("next"))
	for _, c := range [][][]byte{nil, {nil}, {next[4:6]}, {next[4:], next[:5]}, {next[4:], next, next[:5]}, {append(bytes.Clone(next[4:]), 0)}} {
		held, under := roomy(next[:4])
		given := [][]byte{under}
		var pieces [][]byte
		for _, piece := range c {
			p, whole := roomy(piece)
			pieces, given = append(pieces, p), append(given, whole)
		}
		f := frame.Buffer{Held: held}
		before, list := clones(given), clones(pieces)
		g, l, _ := frame.Feed(f, pieces...)
		h, m, _ := frame.Feed(f, pieces...)
		frame.Check(f)
		if !same(given, before) || !same(pieces, list) || string(f.Held) != string(next[:4]) || f.Lost {
			t.Error("P3.5: Feed or Check changes what it is given")
		}
		if !apart(given, append(append(slices.Clone(l), m...), g.Held, h.Held)...) {
			t.Errorf("P3.5: Feed shares memory, %d pieces", len(pieces))
		}
	}
}

func TestFeedKeepsNoRoom(t *testing.T) {
	whole := append(bytes.Repeat(framed(make([]byte, most)), 20), 5)
	if f, _, e := frame.Feed(frame.Buffer{}, whole); len(f.Held) != 1 || cap(f.Held) > 8192 || e != api.OK {
		t.Errorf("P3.5: Feed holds %d octets in room for %d, error %d", len(f.Held), cap(f.Held), e)
	}
}
