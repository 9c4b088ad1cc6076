package varint_test

import (
	"bytes"
	"encoding/binary"
	"math"
	"math/big"
	"math/rand"
	"slices"
	"testing"

	"waybill/api"
	"waybill/varint"
)

// edges are the numbers where the count of octets changes, and those beside them.
func edges() []uint64 {
	l := []uint64{0, 1, 2, 300, math.MaxInt64, 1 << 63, math.MaxUint64 - 1, math.MaxUint64}
	for k := 7; k < 64; k += 7 {
		n := uint64(1) << k
		l = append(l, n-2, n-1, n, n+1)
	}
	return l
}

// with answers count octets c, and the others behind them.
func with(count int, c byte, rest ...byte) []byte {
	return append(bytes.Repeat([]byte{c}, count), rest...)
}

// lettered is a number written with its octets.
type lettered struct {
	n uint64
	b []byte
}

func written() []lettered {
	return []lettered{
		{0, []byte{0}},
		{1, []byte{1}},
		{127, []byte{0x7f}},
		{128, []byte{0x80, 1}},
		{300, []byte{0xac, 2}},
		{16383, []byte{0xff, 0x7f}},
		{16384, []byte{0x80, 0x80, 1}},
		{1<<31 - 1, []byte{0xff, 0xff, 0xff, 0xff, 7}},
		{1<<63 - 1, with(8, 0xff, 0x7f)},
		{1 << 63, with(9, 0x80, 1)},
		{math.MaxUint64, with(9, 0xff, 1)},
	}
}

func TestPut(t *testing.T) {
	for _, w := range written() {
		if b := varint.Put(nil, w.n); !bytes.Equal(b, w.b) {
			t.Errorf("P1.1: Put(nil, %d): % x, want % x", w.n, b, w.b)
		}
	}
	for _, n := range edges() {
		if b := varint.Put(nil, n); !bytes.Equal(b, binary.AppendUvarint(nil, n)) {
			t.Errorf("P1.1: Put(nil, %d): % x", n, b)
		}
	}
	if b := varint.Put([]byte{9, 0x80}, 300, 0, 1); string(b) != "\x09\x80\xac\x02\x00\x01" {
		t.Errorf("P1.1: Put behind octets: % x", b)
	}
	if b := varint.Put([]byte("ab")); string(b) != "ab" {
		t.Errorf("P1.1: Put of no numbers: % x", b)
	}
	if b := varint.Put(nil); len(b) != 0 {
		t.Errorf("P1.1: Put of nothing: % x", b)
	}
	if b := varint.Put([]byte{}, []uint64{}...); len(b) != 0 {
		t.Errorf("P1.1: Put of empty lists: % x", b)
	}
}

func TestGet(t *testing.T) {
	for _, w := range written() {
		if n, end, e := varint.Get(w.b, 0); n != w.n || end != len(w.b) || e != api.OK {
			t.Errorf("P1.1: Get(% x, 0): %d %d %d", w.b, n, end, e)
		}
	}
	b := []byte{0xac, 2, 0, 0xff}
	for _, c := range []struct {
		at, end int
		n       uint64
	}{{0, 2, 300}, {1, 2, 2}, {2, 3, 0}} {
		if n, end, e := varint.Get(b, c.at); n != c.n || end != c.end || e != api.OK {
			t.Errorf("P1.1: Get(% x, %d): %d %d %d", b, c.at, n, end, e)
		}
	}
}

func TestGetErrors(t *testing.T) {
	for _, c := range []struct {
		why  string
		b    []byte
		at   int
		want api.Errno
	}{
		{"below 0", []byte{1}, -1, api.ErrRange},
		{"far below 0", []byte{1}, math.MinInt, api.ErrRange},
		{"above the length", []byte{1}, 2, api.ErrRange},
		{"above the length of nothing", nil, 1, api.ErrRange},
		{"far above the length", []byte{0x80, 0}, math.MaxInt, api.ErrRange},
		{"nothing there", nil, 0, api.ErrShort},
		{"an empty list", []byte{}, 0, api.ErrShort},
		{"at the end", []byte{1}, 1, api.ErrShort},
		{"one octet, more to come", []byte{0x80}, 0, api.ErrShort},
		{"behind a number", []byte{1, 0xff, 0xff}, 1, api.ErrShort},
		{"nine octets, more to come", with(9, 0xff), 0, api.ErrShort},
		{"nine octets of 0, more to come", with(9, 0x80), 0, api.ErrShort},
		{"0 in two octets", []byte{0x80, 0}, 0, api.ErrCorrupt},
		{"0 in three octets", []byte{0x80, 0x80, 0}, 0, api.ErrCorrupt},
		{"300 in three octets", []byte{0xac, 0x82, 0}, 0, api.ErrCorrupt},
		{"a last octet 0, numbers behind it", []byte{7, 0xff, 0, 1, 1}, 1, api.ErrCorrupt},
		{"a tenth octet 0", with(9, 0xff, 0), 0, api.ErrCorrupt},
		{"2^64", with(9, 0x80, 2), 0, api.ErrCorrupt},
		{"above 2^64", with(9, 0xff, 0x7f), 0, api.ErrCorrupt},
		{"2^64 shown, more to come", with(9, 0x80, 0x82), 0, api.ErrCorrupt},
		{"ten octets, an eleventh to come", with(10, 0x80), 0, api.ErrCorrupt},
		{"ten octets below 2^64, an eleventh to come", with(9, 0xff, 0x81), 0, api.ErrCorrupt},
		{"eleven octets", with(10, 0x80, 1), 0, api.ErrCorrupt},
		{"eleven octets, the last 0", with(10, 0x80, 0), 0, api.ErrCorrupt},
		{"many octets", with(4000, 0xff), 0, api.ErrCorrupt},
	} {
		if n, end, e := varint.Get(c.b, c.at); n != 0 || end != 0 || e != c.want {
			t.Errorf("P1.1: Get, %s: %d %d %d, want error %d", c.why, n, end, e, c.want)
		}
	}
}

// slowGet goes by the words of the chapter, with numbers of any size.
func slowGet(b []byte) (uint64, int, api.Errno) {
	n := new(big.Int)
	for i := range 10 {
		if i == len(b) {
			return 0, 0, api.ErrShort
		}
		part := big.NewInt(int64(b[i] & 0x7f))
		n.Add(n, part.Lsh(part, uint(7*i)))
		last := b[i]&0x80 == 0
		if !n.IsUint64() || last && b[i] == 0 && i > 0 {
			return 0, 0, api.ErrCorrupt
		}
		if last {
			return n.Uint64(), i + 1, api.OK
		}
	}
	return 0, 0, api.ErrCorrupt
}

func TestGetAgainstTheWords(t *testing.T) {
	r := rand.New(rand.NewSource(1))
	octets := []byte{0, 1, 2, 0x7f, 0x80, 0x81, 0x82, 0xff}
	for range 200000 {
		b := make([]byte, r.Intn(13))
		for i := range b {
			b[i] = octets[4+r.Intn(4)]
		}
		for range r.Intn(3) {
			if len(b) > 0 {
				b[r.Intn(len(b))] = octets[r.Intn(len(octets))]
			}
		}
		n, end, e := varint.Get(b, 0)
		wantN, wantEnd, wantE := slowGet(b)
		if n != wantN || end != wantEnd || e != wantE {
			t.Fatalf("P1.1: Get(% x, 0): %d %d %d, want %d %d %d", b, n, end, e, wantN, wantEnd, wantE)
		}
	}
}

func TestSize(t *testing.T) {
	for _, w := range written() {
		if s := varint.Size(w.n); s != len(w.b) {
			t.Errorf("P1.1: Size(%d): %d, want %d", w.n, s, len(w.b))
		}
	}
	for _, n := range edges() {
		if s := varint.Size(n); s != len(binary.AppendUvarint(nil, n)) {
			t.Errorf("P1.1: Size(%d): %d", n, s)
		}
	}
}

func TestAll(t *testing.T) {
	for _, want := range [][]uint64{nil, {0}, {300, 1}, {0, 0, 0}, edges()} {
		if l, e := varint.All(varint.Put(nil, want...)); !slices.Equal(l, want) || e != api.OK {
			t.Errorf("P1.1: All of %d numbers: %v %d", len(want), l, e)
		}
	}
	if l, e := varint.All(nil); len(l) != 0 || e != api.OK {
		t.Error("P1.1: All(nil):", l, e)
	}
	if l, e := varint.All(with(4096, 5)); e != api.OK || !slices.Equal(l, slices.Repeat([]uint64{5}, 4096)) {
		t.Error("P1.1: All of 4096 numbers:", len(l), e)
	}
}

func TestAllErrors(t *testing.T) {
	for _, c := range []struct {
		why  string
		b    []byte
		want api.Errno
	}{
		{"no end", []byte{1, 0x80}, api.ErrShort},
		{"a needless octet", []byte{1, 0x80, 0, 1}, api.ErrCorrupt},
		{"a needless octet, then no end", []byte{0x80, 0, 0x80}, api.ErrCorrupt},
		{"4097 numbers", with(4097, 1), api.ErrCount},
		{"4097 numbers of 0", with(4097, 0), api.ErrCount},
		{"many numbers", with(9000, 1), api.ErrCount},
		{"the 4097th of two octets", with(4096, 1, 0xac, 2), api.ErrCount},
		{"the 4097th without an end", with(4096, 1, 0x80), api.ErrShort},
		{"the 4097th with a needless octet", with(4096, 1, 0x80, 0), api.ErrCorrupt},
		{"the 4098th with a needless octet", with(4097, 1, 0x80, 0), api.ErrCount},
		{"the 4098th without an end", with(4097, 1, 0x80), api.ErrCount},
		{"a needless octet ahead of too many", append([]byte{0x80, 0}, with(5000, 1)...), api.ErrCorrupt},
	} {
		if l, e := varint.All(c.b); len(l) != 0 || e != c.want {
			t.Errorf("P1.1: All, %s: %d numbers, error %d, want %d", c.why, len(l), e, c.want)
		}
	}
}

func TestZigZag(t *testing.T) {
	for _, c := range []struct {
		n   int
		zig uint64
	}{
		{0, 0}, {-1, 1}, {1, 2}, {-2, 3}, {2, 4}, {3, 6}, {-5, 9}, {64, 128}, {-64, 127},
		{math.MaxInt, math.MaxUint64 - 1},
		{math.MinInt, math.MaxUint64},
		{math.MinInt + 1, math.MaxUint64 - 2},
		{math.MaxInt - 1, math.MaxUint64 - 3},
	} {
		if z := varint.Zig(c.n); z != c.zig {
			t.Errorf("P1.2: Zig(%d): %d, want %d", c.n, z, c.zig)
		}
		if z := varint.Zag(c.zig); z != c.n {
			t.Errorf("P1.2: Zag(%d): %d, want %d", c.zig, z, c.n)
		}
	}
	for _, n := range edges() {
		if z := varint.Zig(varint.Zag(n)); z != n {
			t.Errorf("P1.2: Zig of Zag of %d: %d", n, z)
		}
		if z := varint.Zag(varint.Zig(int(n))); z != int(n) {
			t.Errorf("P1.2: Zag of Zig of %d: %d", int(n), z)
		}
	}
}

func TestTexts(t *testing.T) {
	if b := varint.Texts([]byte{9}, []byte("ab"), nil, []byte{}, []byte("c")); string(b) != "\x09\x02ab\x00\x00\x01c" {
		t.Errorf("P1.3: Texts: % x", b)
	}
	if b := varint.Texts([]byte("ab")); string(b) != "ab" {
		t.Errorf("P1.3: Texts of none: % x", b)
	}
	if b := varint.Texts(nil); len(b) != 0 {
		t.Errorf("P1.3: Texts of nothing: % x", b)
	}
	long := with(300, 'x')
	if b := varint.Texts(nil, long); string(b) != "\xac\x02"+string(long) {
		t.Errorf("P1.3: Texts of 300 octets: % x", b)
	}
}

func TestText(t *testing.T) {
	b := []byte("\x02ab\x00\x03cde")
	long := varint.Texts(nil, with(300, 'x'))
	for _, c := range []struct {
		b        []byte
		at, most int
		text     string
		end      int
	}{
		{b, 0, 2, "ab", 3},
		{b, 0, 3, "ab", 3},
		{b, 0, math.MaxInt, "ab", 3},
		{b, 3, 0, "", 4},
		{b, 3, 7, "", 4},
		{b, 4, 3, "cde", 8},
		{long, 0, 300, string(with(300, 'x')), 302},
	} {
		text, end, e := varint.Text(c.b, c.at, c.most)
		if string(text) != c.text || end != c.end || e != api.OK {
			t.Errorf("P1.3: Text(% x, %d, %d): %q %d %d", c.b, c.at, c.most, text, end, e)
		}
	}
}

func TestTextErrors(t *testing.T) {
	huge := varint.Put(nil, math.MaxUint64)
	for _, c := range []struct {
		why      string
		b        []byte
		at, most int
		want     api.Errno
	}{
		{"below 0", []byte("\x01a"), -1, 9, api.ErrRange},
		{"above the length", []byte("\x01a"), 3, 9, api.ErrRange},
		{"above the length, most below 0", []byte("\x01a"), 3, -1, api.ErrRange},
		{"nothing there", nil, 0, 9, api.ErrShort},
		{"nothing there, most below 0", nil, 0, -1, api.ErrShort},
		{"a length without an end", []byte{0x81}, 0, 0, api.ErrShort},
		{"a length with a needless octet", []byte{0x81, 0, 'a'}, 0, 9, api.ErrCorrupt},
		{"a length with a needless octet, most below 0", []byte{0x81, 0}, 0, -1, api.ErrCorrupt},
		{"longer than most", []byte("\x02ab"), 0, 1, api.ErrLong},
		{"most 0", []byte("\x01a"), 0, 0, api.ErrLong},
		{"most below 0", []byte("\x01a"), 0, -1, api.ErrLong},
		{"most below 0, an empty text", []byte{0}, 0, -1, api.ErrLong},
		{"most far below 0, an empty text", []byte{0}, 0, math.MinInt, api.ErrLong},
		{"longer than most, and b ends", []byte("\x05ab"), 0, 4, api.ErrLong},
		{"a length of 2^64 - 1", huge, 0, math.MaxInt, api.ErrLong},
		{"b ends", []byte("\x03ab"), 0, 3, api.ErrShort},
		{"b ends at the length", []byte("\x01"), 0, 9, api.ErrShort},
		{"b ends, a length of 2^63 - 1", varint.Put(nil, math.MaxInt64), 0, math.MaxInt, api.ErrShort},
		{"b ends behind another text", []byte("\x01a\x02b"), 2, 9, api.ErrShort},
	} {
		if text, end, e := varint.Text(c.b, c.at, c.most); len(text) != 0 || end != 0 || e != c.want {
			t.Errorf("P1.3: Text, %s: %q %d %d, want error %d", c.why, text, end, e, c.want)
		}
	}
}

func TestWhatIsPutIsGot(t *testing.T) {
	for _, ahead := range []string{"", "\x00", "\x80", "\xff\xff"} {
		for _, behind := range []string{"", "\x00", "\x01", "\x80", "\xff"} {
			for _, want := range edges() {
				b := append(varint.Put([]byte(ahead), want), behind...)
				n, end, e := varint.Get(b, len(ahead))
				if n != want || end != len(b)-len(behind) || end != len(ahead)+varint.Size(want) || e != api.OK {
					t.Errorf("P1.4: %d between %q and %q: %d %d %d", want, ahead, behind, n, end, e)
				}
			}
			for _, size := range []int{0, 1, 127, 128, 16384} {
				want := with(size, 0x80)
				b := append(varint.Texts([]byte(ahead), want), behind...)
				text, end, e := varint.Text(b, len(ahead), size)
				if !bytes.Equal(text, want) || end != len(b)-len(behind) || e != api.OK {
					t.Errorf("P1.4: a text of %d between %q and %q: %d %d %d", size, ahead, behind, len(text), end, e)
				}
			}
		}
	}
}

func TestWhatIsGotIsPut(t *testing.T) {
	var b [3]byte
	for n := range 1 << 24 {
		b[0], b[1], b[2] = byte(n), byte(n>>8), byte(n>>16)
		got, end, e := varint.Get(b[:], 0)
		if e == api.OK && !bytes.Equal(varint.Put(nil, got), b[:end]) {
			t.Fatalf("P1.4: Get takes % x as %d", b[:end], got)
		}
	}
}

// FuzzGet holds P1.4 and P1.1 for octets of any kind.
func FuzzGet(f *testing.F) {
	for _, w := range written() {
		f.Add(w.b, 0, 9)
	}
	f.Add([]byte("\x02ab\x01c"), 3, 1)
	f.Fuzz(func(t *testing.T, b []byte, at int, most int) {
		n, end, e := varint.Get(b, at)
		if at >= 0 && at <= len(b) {
			wantN, wantEnd, wantE := slowGet(b[at:])
			if wantE == api.OK {
				wantEnd += at
			}
			if n != wantN || end != wantEnd || e != wantE {
				t.Errorf("P1.1: Get(% x, %d): %d %d %d", b, at, n, end, e)
			}
		}
		if l, e := varint.All(b); e == api.OK && !bytes.Equal(varint.Put(nil, l...), b) {
			t.Errorf("P1.4: All takes % x as %v", b, l)
		}
		if text, end, e := varint.Text(b, at, most); e == api.OK && !bytes.Equal(varint.Texts(nil, text), b[at:end]) {
			t.Errorf("P1.4: Text takes % x as % x", b[at:end], text)
		}
	})
}

// roomy answers a slice with room behind it, and the whole of what lies under it.
func roomy(text string) ([]byte, []byte) {
	whole := append(with(0, 0, []byte(text)...), with(64, 0xee)...)
	return whole[:len(text)], whole
}

func spoil(b []byte) {
	b = b[:cap(b)]
	for i := range b {
		b[i] ^= 0xff
	}
}

func TestMemoryOfPut(t *testing.T) {
	b, whole := roomy("ab")
	l := []uint64{300, 1}
	before := bytes.Clone(whole)
	one := varint.Put(b, l...)
	two := varint.Put(b, 7)
	if !bytes.Equal(whole, before) || !slices.Equal(l, []uint64{300, 1}) {
		t.Error("P1.5: Put changes what it is given")
	}
	spoil(two)
	spoil(whole)
	l[0] = 5
	if string(one) != "ab\xac\x02\x01" {
		t.Errorf("P1.5: Put shares memory: % x", one)
	}
	b, whole = roomy("ab")
	spoil(varint.Put(b))
	if string(b) != "ab" || whole[2] != 0xee {
		t.Error("P1.5: Put of no numbers shares memory")
	}
}

func TestMemoryOfTexts(t *testing.T) {
	b, whole := roomy("ab")
	first, second := []byte("cd"), []byte("e")
	l := [][]byte{first, second}
	before := bytes.Clone(whole)
	one := varint.Texts(b, l...)
	two := varint.Texts(b, second)
	if !bytes.Equal(whole, before) || string(first) != "cd" || string(second) != "e" || len(l) != 2 {
		t.Error("P1.5: Texts changes what it is given")
	}
	spoil(two)
	spoil(whole)
	spoil(first)
	l[1] = nil
	if string(one) != "ab\x02cd\x01e" {
		t.Errorf("P1.5: Texts shares memory: % x", one)
	}
	b, whole = roomy("ab")
	spoil(varint.Texts(b))
	if string(b) != "ab" || whole[2] != 0xee {
		t.Error("P1.5: Texts of none shares memory")
	}
}

func TestMemoryOfText(t *testing.T) {
	b, whole := roomy("\x02ab\x00\x01c")
	before := bytes.Clone(whole)
	one, _, _ := varint.Text(b, 0, 9)
	two, _, _ := varint.Text(b, 0, 9)
	none, _, _ := varint.Text(b, 3, 9)
	if !bytes.Equal(whole, before) {
		t.Error("P1.5: Text changes what it is given")
	}
	spoil(two)
	spoil(none)
	if !bytes.Equal(whole, before) {
		t.Error("P1.5: Text hands out what it was given")
	}
	spoil(whole)
	if string(one) != "ab" {
		t.Errorf("P1.5: Text shares memory: %q", one)
	}
}

func TestMemoryOfGetAndAll(t *testing.T) {
	b, whole := roomy("\xac\x02\x01")
	before := bytes.Clone(whole)
	varint.Get(b, 0)
	one, _ := varint.All(b)
	two, _ := varint.All(b)
	if !bytes.Equal(whole, before) {
		t.Error("P1.5: Get or All changes what it is given")
	}
	two[0] = 5
	spoil(whole)
	if !slices.Equal(one, []uint64{300, 1}) {
		t.Error("P1.5: All shares memory:", one)
	}
}
