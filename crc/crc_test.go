package crc_test

import (
	"bytes"
	"hash/crc32"
	"math"
	"math/bits"
	"math/rand"
	"testing"

	"waybill/api"
	"waybill/crc"
)

// sums are those at the ends of what a sum may be, and some in between.
func sums() []uint32 {
	l := []uint32{0, math.MaxUint32, 0xedb88320, ^uint32(0xedb88320), 0xcbf43926, 7}
	for i := range 32 {
		l = append(l, 1<<i, ^(uint32(1) << i))
	}
	return l
}

// texts are of all lengths about those of a word and of two, and some that are long.
func texts() [][]byte {
	r := rand.New(rand.NewSource(2))
	l := [][]byte{nil, {}, {0}, {0xff}, []byte("123456789"), make([]byte, 40), bytes.Repeat([]byte{0xff}, 40)}
	for _, size := range []int{1, 2, 3, 4, 5, 7, 8, 9, 31, 255, 256, 257, 5000} {
		b := make([]byte, size)
		r.Read(b)
		l = append(l, b)
	}
	return l
}

// slowSum goes by the words of the chapter, bit by bit.
func slowSum(b []byte) uint32 {
	register := uint32(0xffffffff)
	for _, octet := range b {
		register ^= uint32(octet)
		for range 8 {
			out := register % 2
			register /= 2
			if out == 1 {
				register ^= 0xedb88320
			}
		}
	}
	return register ^ 0xffffffff
}

func TestSum(t *testing.T) {
	for _, c := range []struct {
		text string
		want uint32
	}{
		{"", 0},
		{"a", 0xe8b7be43},
		{"123456789", 0xcbf43926},
		{"\x00", 0xd202ef8d},
		{"\x00\x00\x00\x00", 0x2144df1c},
		{"\xff\xff\xff\xff", 0xffffffff},
		{"The quick brown fox jumps over the lazy dog", 0x414fa339},
	} {
		if s := crc.Sum([]byte(c.text)); s != c.want {
			t.Errorf("P2.1: Sum(%q): %x, want %x", c.text, s, c.want)
		}
	}
	for _, b := range texts() {
		if s := crc.Sum(b); s != slowSum(b) || s != crc32.ChecksumIEEE(b) {
			t.Errorf("P2.1: Sum of %d octets: %x, want %x", len(b), s, slowSum(b))
		}
	}
}

func TestSumOfSeveral(t *testing.T) {
	if s := crc.Sum(); s != 0 {
		t.Errorf("P2.1: Sum(): %x", s)
	}
	if s := crc.Sum([][]byte{}...); s != 0 {
		t.Errorf("P2.1: Sum of an empty list: %x", s)
	}
	if s := crc.Sum(nil, []byte{}, nil); s != 0 {
		t.Errorf("P2.1: Sum of empty texts: %x", s)
	}
	if s := crc.Sum(nil, []byte("123"), []byte{}, []byte("45678"), nil, []byte("9")); s != 0xcbf43926 {
		t.Errorf("P2.1: Sum with empty texts in between: %x", s)
	}
	if a, b := crc.Sum([]byte("ab"), []byte("c")), crc.Sum([]byte("c"), []byte("ab")); a == b {
		t.Errorf("P2.1: Sum takes texts in any order: %x", a)
	}
	whole := []byte("one behind the other")
	for i := range len(whole) + 1 {
		for j := i; j <= len(whole); j++ {
			if s := crc.Sum(whole[:i], whole[i:j], whole[j:]); s != slowSum(whole) {
				t.Errorf("P2.1: Sum cut at %d and %d: %x", i, j, s)
			}
		}
	}
}

func TestMore(t *testing.T) {
	for _, b := range texts() {
		if c := crc.More(0, b); c != slowSum(b) {
			t.Errorf("P2.1: More from nothing, %d octets: %x", len(b), c)
		}
		for _, ahead := range texts() {
			want := slowSum(append(bytes.Clone(ahead), b...))
			if c := crc.More(slowSum(ahead), b); c != want {
				t.Errorf("P2.1: More from %d octets with %d: %x, want %x", len(ahead), len(b), c, want)
			}
		}
		for _, c := range sums() {
			if m := crc.More(c, b); m != crc32.Update(c, crc32.IEEETable, b) {
				t.Errorf("P2.1: More(%x, %d octets): %x", c, len(b), m)
			}
		}
	}
	for _, c := range sums() {
		if crc.More(c, nil) != c || crc.More(c, []byte{}) != c {
			t.Errorf("P2.1: More(%x, no octets): %x", c, crc.More(c, nil))
		}
	}
}

func TestBack(t *testing.T) {
	if c := crc.Back(0xcbf43926, []byte("123456789")); c != 0 {
		t.Errorf("P2.1: Back over the whole text: %x", c)
	}
	if c := crc.Back(0xcbf43926, []byte("9")); c != slowSum([]byte("12345678")) {
		t.Errorf("P2.1: Back over the last octet: %x", c)
	}
	for _, c := range sums() {
		if crc.Back(c, nil) != c || crc.Back(c, []byte{}) != c {
			t.Errorf("P2.1: Back(%x, no octets): %x", c, crc.Back(c, nil))
		}
		for _, b := range texts() {
			if m := crc.More(crc.Back(c, b), b); m != c {
				t.Errorf("P2.1: More of Back of %x, %d octets: %x", c, len(b), m)
			}
			if m := crc.Back(crc.More(c, b), b); m != c {
				t.Errorf("P2.1: Back of More of %x, %d octets: %x", c, len(b), m)
			}
		}
		for n := range 256 {
			b := []byte{byte(n)}
			if m := crc32.Update(crc.Back(c, b), crc32.IEEETable, b); m != c {
				t.Errorf("P2.1: Back of %x, octet %x: goes on to %x", c, n, m)
			}
		}
	}
}

func TestForce(t *testing.T) {
	for _, c := range []struct {
		b    string
		want uint32
		four string
	}{
		{"", 0x2144df1c, "\x00\x00\x00\x00"},
		{"", 0xffffffff, "\xff\xff\xff\xff"},
		{"12345", 0xcbf43926, "6789"},
	} {
		if f := crc.Force([]byte(c.b), c.want); string(f) != c.four {
			t.Errorf("P2.2: Force(%q, %x): % x, want % x", c.b, c.want, f, c.four)
		}
	}
	for _, b := range texts() {
		for _, want := range append(sums(), slowSum(b)) {
			f := crc.Force(b, want)
			if s := slowSum(append(bytes.Clone(b), f...)); len(f) != 4 || s != want {
				t.Errorf("P2.2: Force(%d octets, %x): % x, of sum %x", len(b), want, f, s)
			}
		}
	}
}

// turned is Unlike by a list of bits.
func turned(b []byte, at int, turn uint32) []byte {
	var row []bool
	for _, octet := range b {
		for octet, i := octet, 0; i < 8; i++ {
			row = append(row, octet%2 == 1)
			octet /= 2
		}
	}
	for i := range 32 {
		row[at+i] = row[at+i] != (turn%2 == 1)
		turn /= 2
	}
	out := make([]byte, len(b))
	for i, set := range row {
		if set {
			out[i/8] |= 1 << (i % 8)
		}
	}
	return out
}

func TestUnlike(t *testing.T) {
	for _, c := range []struct {
		b    string
		at   int
		turn uint32
		want string
	}{
		{"\x00\x00\x00\x00", 0, 0, "\x00\x00\x00\x00"},
		{"\x00\x00\x00\x00", 0, 1, "\x01\x00\x00\x00"},
		{"\x00\x00\x00\x00", 0, 1 << 31, "\x00\x00\x00\x80"},
		{"\x00\x00\x00\x00", 0, math.MaxUint32, "\xff\xff\xff\xff"},
		{"\xff\xff\xff\xff", 0, 0x80000001, "\xfe\xff\xff\x7f"},
		{"\x00\x00\x00\x00\x00", 1, 1, "\x02\x00\x00\x00\x00"},
		{"\x00\x00\x00\x00\x00", 7, 3, "\x80\x01\x00\x00\x00"},
		{"\x00\x00\x00\x00\x00", 8, 0x84030201, "\x00\x01\x02\x03\x84"},
		{"\x00\x00\x00\x00\x00", 3, math.MaxUint32, "\xf8\xff\xff\xff\x07"},
		{"abcdef", 16, 0, "abcdef"},
	} {
		if b, e := crc.Unlike([]byte(c.b), c.at, c.turn); string(b) != c.want || e != api.OK {
			t.Errorf("P2.2: Unlike(% x, %d, %x): % x %d, want % x", c.b, c.at, c.turn, b, e, c.want)
		}
	}
	for _, b := range [][]byte{[]byte("1234"), []byte("12345"), []byte("\x00\xff\x80\x01abc"), make([]byte, 11)} {
		for at := range 8*len(b) - 31 {
			for _, turn := range sums() {
				if u, e := crc.Unlike(b, at, turn); !bytes.Equal(u, turned(b, at, turn)) || e != api.OK {
					t.Errorf("P2.2: Unlike(% x, %d, %x): % x %d", b, at, turn, u, e)
				}
			}
		}
	}
}

func TestUnlikeErrors(t *testing.T) {
	for _, size := range []int{0, 1, 3, 4, 5, 100} {
		b := make([]byte, size)
		last := 8*size - 32
		for _, at := range []int{math.MinInt, math.MinInt + 31, -8*size - 1, -33, -32, -31, -8, -1, max(last, -1) + 1, 8*size - 1, 8 * size, 8*size + 1, math.MaxInt - 31, math.MaxInt - 30, math.MaxInt} {
			if at >= 0 && at <= last {
				continue
			}
			for _, turn := range []uint32{0, 1, math.MaxUint32} {
				if u, e := crc.Unlike(b, at, turn); len(u) != 0 || e != api.ErrRange {
					t.Errorf("P2.2: Unlike(%d octets, %d, %x): % x %d, want error %d", size, at, turn, u, e, api.ErrRange)
				}
			}
		}
		if _, e := crc.Unlike(b, last, 0); size >= 4 && e != api.OK {
			t.Errorf("P2.2: Unlike(%d octets, %d, 0): the last bits are there, error %d", size, last, e)
		}
	}
	if u, e := crc.Unlike(nil, 0, 0); len(u) != 0 || e != api.ErrRange {
		t.Errorf("P2.2: Unlike(nil, 0, 0): % x %d", u, e)
	}
}

func TestTurnedBitsAreTold(t *testing.T) {
	r := rand.New(rand.NewSource(3))
	for _, b := range texts() {
		b = b[:min(len(b), 60)]
		want := crc.Sum(b)
		for at := range max(0, 8*len(b)-31) {
			turns := sums()
			for n := range 32 {
				turns = append(turns, math.MaxUint32>>n, r.Uint32())
			}
			for _, turn := range turns {
				u, _ := crc.Unlike(b, at, turn)
				if (crc.Sum(u) == want) != (turn == 0) {
					t.Fatalf("P2.3: %x turned from bit %d on, of %d octets: %x and %x", turn, at, len(b), crc.Sum(u), want)
				}
			}
		}
	}
}

func TestTurnedBitsOfShortTextsAreTold(t *testing.T) {
	for _, b := range []string{"a", "ab"} {
		seen := map[uint32]int{}
		for n := range 1 << (8 * len(b)) {
			text := []byte(b)
			for i := range text {
				text[i] ^= byte(n >> (8 * i))
			}
			seen[crc.Sum(text)]++
		}
		if len(seen) != 1<<(8*len(b)) {
			t.Errorf("P2.3: texts of %d octets have %d sums", len(b), len(seen))
		}
	}
}

// rank tells how many of the words no exclusive or of others makes.
func rank(l []uint32) int {
	var base [32]uint32
	n := 0
	for _, w := range l {
		for w != 0 {
			top := bits.Len32(w) - 1
			if base[top] == 0 {
				base[top] = w
				n++
				break
			}
			w ^= base[top]
		}
	}
	return n
}

func TestJustFourOctetsMakeASum(t *testing.T) {
	r := rand.New(rand.NewSource(4))
	for _, b := range texts() {
		for range 200 {
			four := make([]byte, 4)
			r.Read(four)
			if f := crc.Force(b, crc.Sum(b, four)); !bytes.Equal(f, four) {
				t.Errorf("P2.4: behind %d octets both % x and % x make one sum", len(b), four, f)
			}
		}
		// Sums are exclusive ors of what single bits change: if those are free of each other, no two fours have one sum.
		none := crc.Sum(b, make([]byte, 4))
		var change []uint32
		for i := range 32 {
			four := make([]byte, 4)
			four[i/8] = 1 << (i % 8)
			change = append(change, none^crc.Sum(b, four))
		}
		if n := rank(change); n != 32 {
			t.Errorf("P2.4: behind %d octets four octets make 2^%d sums", len(b), n)
		}
	}
}

// FuzzSum holds P2.1 to P2.4 for octets of any kind.
func FuzzSum(f *testing.F) {
	f.Add([]byte("12345"), []byte("6789"), uint32(7), 3)
	f.Add([]byte{}, []byte{0}, uint32(0), -1)
	f.Fuzz(func(t *testing.T, a []byte, b []byte, c uint32, at int) {
		if s := crc.Sum(a, b); s != crc32.ChecksumIEEE(append(bytes.Clone(a), b...)) {
			t.Errorf("P2.1: Sum(% x, % x): %x", a, b, s)
		}
		if m := crc.Back(crc.More(c, b), b); m != c {
			t.Errorf("P2.1: Back of More(%x, % x): %x", c, b, m)
		}
		if s := crc.Sum(b, crc.Force(b, c)); s != c {
			t.Errorf("P2.2: Force(% x, %x): sum %x", b, c, s)
		}
		u, e := crc.Unlike(b, at, c)
		there := at >= 0 && at < 8*len(b) && at+31 < 8*len(b)
		if there != (e == api.OK) || there && !bytes.Equal(u, turned(b, at, c)) {
			t.Errorf("P2.2: Unlike(% x, %d, %x): % x %d", b, at, c, u, e)
		}
		if there && (crc.Sum(u) == crc.Sum(b)) != (c == 0) {
			t.Errorf("P2.3: Unlike(% x, %d, %x) is not told", b, at, c)
		}
	})
}

// roomy answers a slice with room behind it, and the whole of what lies under it.
func roomy(text string) ([]byte, []byte) {
	whole := append([]byte(text), bytes.Repeat([]byte{0xee}, 64)...)
	return whole[:len(text)], whole
}

func spoil(b []byte) {
	b = b[:cap(b)]
	for i := range b {
		b[i] ^= 0xff
	}
}

func TestMemoryOfSums(t *testing.T) {
	b, whole := roomy("abc")
	c, other := roomy("12345")
	before, otherBefore := bytes.Clone(whole), bytes.Clone(other)
	l := [][]byte{b, nil, c}
	crc.Sum(l...)
	crc.More(7, b)
	crc.Back(7, b)
	if !bytes.Equal(whole, before) || !bytes.Equal(other, otherBefore) || string(l[0]) != "abc" || l[1] != nil || string(l[2]) != "12345" {
		t.Error("P2.5: Sum, More or Back changes what it is given")
	}
}

func TestMemoryOfForce(t *testing.T) {
	b, whole := roomy("abc")
	before := bytes.Clone(whole)
	one := crc.Force(b, 7)
	two := crc.Force(b, 7)
	want := bytes.Clone(one)
	if !bytes.Equal(whole, before) {
		t.Error("P2.5: Force changes what it is given")
	}
	spoil(two)
	spoil(whole)
	if !bytes.Equal(one, want) {
		t.Errorf("P2.5: Force shares memory: % x, was % x", one, want)
	}
	if f := crc.Force([]byte("abc"), 7); !bytes.Equal(f, want) {
		t.Errorf("P2.5: Force hands out what it keeps: % x, was % x", f, want)
	}
}

func TestMemoryOfUnlike(t *testing.T) {
	for _, turn := range []uint32{0, 1, math.MaxUint32} {
		b, whole := roomy("abcde")
		before := bytes.Clone(whole)
		one, _ := crc.Unlike(b, 5, turn)
		two, _ := crc.Unlike(b, 5, turn)
		want := bytes.Clone(one)
		if !bytes.Equal(whole, before) {
			t.Error("P2.5: Unlike changes what it is given")
		}
		spoil(two)
		if !bytes.Equal(whole, before) {
			t.Error("P2.5: Unlike hands out what it was given")
		}
		spoil(whole)
		if !bytes.Equal(one, want) {
			t.Errorf("P2.5: Unlike shares memory: % x, was % x", one, want)
		}
	}
}
