package hash_test

import (
	"hash/fnv"
	"math"
	"math/big"
	"math/bits"
	"math/rand"
	"slices"
	"strings"
	"sync"
	"testing"

	"waybill/api"
	"waybill/hash"
)

// mostShares is the document's number, written out.
const mostShares = 1048576

// whole is 2^64: what the slow functions count by.
func whole() *big.Int {
	return new(big.Int).Lsh(big.NewInt(1), 64)
}

func wide(n uint64) *big.Int {
	return new(big.Int).SetUint64(n)
}

// hexed is a number that is written in hexadecimal digits.
func hexed(digits string) *big.Int {
	n, ok := new(big.Int).SetString(digits, 16)
	if !ok {
		panic("no hexadecimal digits: " + digits)
	}
	return n
}

// shifted is x exclusive or x shifted right by 33.
func shifted(x *big.Int) *big.Int {
	return new(big.Int).Xor(x, new(big.Int).Rsh(x, 33))
}

// times is x times what the digits tell, modulo 2^64.
func times(x *big.Int, digits string) *big.Int {
	n := new(big.Int).Mul(x, hexed(digits))
	return n.Mod(n, whole())
}

// slowMix goes by the words of the chapter.
func slowMix(x uint64) uint64 {
	n := times(shifted(wide(x)), "ff51afd7ed558ccd")
	n = times(shifted(n), "c4ceb9fe1a85ec53")
	return shifted(n).Uint64()
}

// slowOf goes by the words of the chapter.
func slowOf(seed uint64, l ...string) uint64 {
	n := new(big.Int).Xor(hexed("cbf29ce484222325"), wide(seed))
	for _, text := range l {
		for _, octet := range []byte(text) {
			n = times(n.Xor(n, big.NewInt(int64(octet))), "100000001b3")
		}
		n = times(n, "100000001b3")
		n.Add(n, big.NewInt(1)).Mod(n, whole())
	}
	return slowMix(n.Uint64())
}

// slowInts goes by the words of the chapter.
func slowInts(seed uint64, l ...int) uint64 {
	n := wide(seed)
	for _, number := range l {
		n.Add(n, big.NewInt(int64(number))).Mod(n, whole())
		n = wide(slowMix(n.Uint64()))
	}
	return n.Uint64()
}

// slowShare goes by the words of the chapter.
func slowShare(x uint64, n int) (int, api.Errno) {
	if n < 1 || n > mostShares {
		return 0, api.ErrRange
	}
	high := new(big.Int).Rsh(wide(x), 32)
	high.Mul(high, big.NewInt(int64(n)))
	return int(high.Rsh(high, 32).Int64()), api.OK
}

// words are those at the ends of 64 bits, of 32 and of 33, those of one bit, the chapter's own, and some by chance.
func words() []uint64 {
	l := []uint64{0, 1, 2, 3, 77, math.MaxUint64, math.MaxUint64 - 1, math.MaxInt64, math.MaxUint32, 1<<33 - 1,
		0xff51afd7ed558ccd, 0xc4ceb9fe1a85ec53, 0xcbf29ce484222325, 0x100000001b3, 0xaaaaaaaaaaaaaaaa, 0x5555555555555555}
	for i := range 64 {
		l = append(l, 1<<i, ^(uint64(1) << i), uint64(1)<<i-1, uint64(1)<<i+1)
	}
	r := rand.New(rand.NewSource(10))
	for range 200 {
		l = append(l, r.Uint64())
	}
	return l
}

// numbers are those at the ends of an int, and of 32 bits.
func numbers() []int {
	return []int{0, 1, 2, -1, -2, 255, 256, math.MaxInt32, math.MinInt32, math.MaxUint32, -math.MaxUint32, 1 << 33, math.MaxInt, math.MaxInt - 1, math.MinInt, math.MinInt + 1}
}

// texts are of no octets, of each one octet, of runes of each length, of octets that are no runes, and some that are long.
func texts() []string {
	l := []string{"", "ab", "abc", "abcd", "foobar", "\x00\x00", "\xff\x80", "\u00e9", "\u20ac", "\U0001f600", "\xc3", "\xed\xa0\x80", "\ufffd", strings.Repeat("\x00", 100), strings.Repeat("\xff", 100)}
	for i := range 256 {
		l = append(l, string([]byte{byte(i)}))
	}
	r := rand.New(rand.NewSource(11))
	for _, size := range []int{7, 8, 9, 63, 64, 65, 255, 256, 257, 5000} {
		b := make([]byte, size)
		r.Read(b)
		l = append(l, string(b))
	}
	return l
}

func TestMix(t *testing.T) {
	for _, c := range []struct {
		x, want uint64
	}{
		{0, 0},
		{1, 0xb456bcfc34c2cb2c},
		{2, 0x3abf2a20650683e7},
		{77, 0x29b273e58fe06802},
		{1 << 32, 0xba3a9e160a5f1419},
		{1 << 33, 0x6b80f8591e1145c3},
		{1 << 63, 0x8f780810af31a493},
		{math.MaxUint64, 0x64b5720b4b825f21},
	} {
		if x := hash.Mix(c.x); x != c.want {
			t.Errorf("P10.1: Mix(%x): %x, want %x", c.x, x, c.want)
		}
		if x := hash.Unmix(c.want); x != c.x {
			t.Errorf("P10.1: Unmix(%x): %x, want %x", c.want, x, c.x)
		}
	}
	for _, x := range words() {
		if m := hash.Mix(x); m != slowMix(x) {
			t.Errorf("P10.1: Mix(%x): %x, want %x", x, m, slowMix(x))
		}
	}
}

func TestUnmix(t *testing.T) {
	for _, x := range words() {
		if m := hash.Unmix(slowMix(x)); m != x {
			t.Errorf("P10.1: Unmix of %x mixed: %x", x, m)
		}
		if m := slowMix(hash.Unmix(x)); m != x {
			t.Errorf("P10.1: what Unmix(%x) answers is %x mixed", x, m)
		}
	}
}

func TestOf(t *testing.T) {
	for _, c := range []struct {
		seed uint64
		l    []string
		want uint64
	}{
		{0, nil, 0xefd01f60ba992926},
		{1, nil, 0x12aa8dd8fb8b9885},
		{0xcbf29ce484222325, nil, 0},
		{math.MaxUint64, nil, 0x15e808486c711b04},
		{0, []string{""}, 0x97d663818893ff1d},
		{0, []string{"", ""}, 0xa7423958cf8b39cf},
		{0, []string{"a"}, 0xaea91e6f7de7098b},
		{7, []string{"a"}, 0x563ff4ba106beb0a},
		{0, []string{"ab", "c"}, 0x30b1a7f1daee930b},
		{0, []string{"a", "bc"}, 0x31a63b9d1b40a83a},
		{0, []string{"abc"}, 0xe486b1e2da01305f},
		{0, []string{"\x00"}, 0x881cfe9ae211d5e9},
		{0, []string{"\xff\x80"}, 0x41a0018e4b41510f},
		{0, []string{"\u00e9"}, 0x8274b0a36eea9697},
		{9, []string{"foobar", "", "x"}, 0x88b91ac06e82fe2d},
	} {
		if h := hash.Of(c.seed, c.l...); h != c.want {
			t.Errorf("P10.1: Of(%x, %q): %x, want %x", c.seed, c.l, h, c.want)
		}
	}
	if hash.Of(5) != hash.Of(5, []string{}...) {
		t.Error("P10.1: Of of nil and of an empty list are two")
	}
}

// TestOfIsFNV: one text from the seed 0 is the sum of that name, gone on by the end.
func TestOfIsFNV(t *testing.T) {
	for _, text := range texts() {
		f := fnv.New64a()
		f.Write([]byte(text))
		if h, want := hash.Of(0, text), slowMix(f.Sum64()*0x100000001b3+1); h != want {
			t.Errorf("P10.1: Of(0, %q): %x, want %x", text, h, want)
		}
	}
}

func TestOfSeveral(t *testing.T) {
	r := rand.New(rand.NewSource(12))
	seeds, all := words(), texts()
	for _, seed := range seeds {
		for _, l := range [][]string{nil, {}, {""}, {"a"}, {"a", ""}, {"", "a"}} {
			if h := hash.Of(seed, l...); h != slowOf(seed, l...) {
				t.Errorf("P10.1: Of(%x, %q): %x, want %x", seed, l, h, slowOf(seed, l...))
			}
		}
	}
	for range 500 {
		seed, l := seeds[r.Intn(len(seeds))], []string{}
		for range r.Intn(6) {
			l = append(l, all[r.Intn(len(all))])
		}
		if h := hash.Of(seed, l...); h != slowOf(seed, l...) {
			t.Errorf("P10.1: Of(%x, %q): %x, want %x", seed, l, h, slowOf(seed, l...))
		}
	}
}

// TestOfTellsTextsApart: where a text ends, what order they are in and from which seed on is told.
func TestOfTellsTextsApart(t *testing.T) {
	seen := map[uint64][]string{}
	for _, l := range [][]string{{}, {""}, {"", ""}, {"", "", ""}, {"abc"}, {"", "abc"}, {"abc", ""}, {"a", "bc"}, {"ab", "c"}, {"a", "b", "c"}, {"c", "ab"}, {"bc", "a"}, {"a", "", "bc"}} {
		h := hash.Of(3, l...)
		if other, ok := seen[h]; ok {
			t.Errorf("P10.1: Of(3, %q) and Of(3, %q) are both %x", l, other, h)
		}
		seen[h] = l
	}
	if hash.Of(3, "abc") == hash.Of(4, "abc") {
		t.Error("P10.1: Of takes no seed")
	}
}

// TestOfOfMuch: no octets are too many.
func TestOfOfMuch(t *testing.T) {
	// n octets 0 are n times the factor, which big numbers tell in one go.
	const size = 1 << 24
	m := new(big.Int).Exp(hexed("100000001b3"), big.NewInt(size+1), whole())
	m.Mul(m, hexed("cbf29ce484222325")).Add(m, big.NewInt(1)).Mod(m, whole())
	if h, want := hash.Of(0, strings.Repeat("\x00", size)), slowMix(m.Uint64()); h != want {
		t.Errorf("P10.1: Of of %d octets 0: %x, want %x", size, h, want)
	}
}

func TestInts(t *testing.T) {
	for _, c := range []struct {
		seed uint64
		l    []int
		want uint64
	}{
		{0, nil, 0},
		{5, nil, 5},
		{5, []int{}, 5},
		{math.MaxUint64, nil, math.MaxUint64},
		{0, []int{0}, 0},
		{0, []int{1}, 0xb456bcfc34c2cb2c},
		{1, []int{0}, 0xb456bcfc34c2cb2c},
		{math.MaxUint64, []int{1}, 0},
		{0, []int{-1}, 0x64b5720b4b825f21},
		{1, []int{-1}, 0},
		{1, []int{2, 3}, 0x0a5a1fa73b647bdd},
		{1, []int{3, 2}, 0xd874ea22679aea71},
		{0, []int{math.MaxInt}, 0xabb93df0a930edea},
		{0, []int{math.MinInt}, 0x8f780810af31a493},
		{1 << 63, []int{math.MinInt}, 0},
	} {
		if h := hash.Ints(c.seed, c.l...); h != c.want {
			t.Errorf("P10.1: Ints(%x, %d): %x, want %x", c.seed, c.l, h, c.want)
		}
	}
}

func TestIntsOfSeveral(t *testing.T) {
	r := rand.New(rand.NewSource(13))
	for _, seed := range words() {
		for _, n := range numbers() {
			for _, l := range [][]int{{n}, {n, 0}, {0, n}, {n, n}, {n, -n, r.Int(), -r.Int()}} {
				if h := hash.Ints(seed, l...); h != slowInts(seed, l...) {
					t.Errorf("P10.1: Ints(%x, %d): %x, want %x", seed, l, h, slowInts(seed, l...))
				}
			}
		}
	}
}

// TestIntsGoOn: what is told of some numbers is the seed of those behind them.
func TestIntsGoOn(t *testing.T) {
	l := numbers()
	for i := range len(l) + 1 {
		if h := hash.Ints(hash.Ints(9, l[:i]...), l[i:]...); h != hash.Ints(9, l...) {
			t.Errorf("P10.1: Ints gone on behind %d numbers: %x", i, h)
		}
	}
}

func TestShare(t *testing.T) {
	for _, c := range []struct {
		x       uint64
		n, want int
	}{
		{0, 1, 0},
		{math.MaxUint64, 1, 0},
		{1 << 63, 1, 0},
		{1<<63 - 1, 2, 0},
		{1 << 63, 2, 1},
		{1 << 63, 10, 5},
		{1<<63 - 1, 10, 4},
		{0x55555555ffffffff, 3, 0},
		{0x5555555600000000, 3, 1},
		{0xaaaaaaaaffffffff, 3, 1},
		{0xaaaaaaab00000000, 3, 2},
		{math.MaxUint32, mostShares, 0},
		{0x00000fffffffffff, mostShares, 0},
		{0x0000100000000000, mostShares, 1},
		{0xffffefffffffffff, mostShares, mostShares - 2},
		{0xfffff00000000000, mostShares, mostShares - 1},
		{math.MaxUint64, mostShares, mostShares - 1},
		{math.MaxUint64, mostShares - 1, mostShares - 2},
		{math.MaxUint64, 7, 6},
		{0, mostShares, 0},
	} {
		if s, e := hash.Share(c.x, c.n); s != c.want || e != api.OK {
			t.Errorf("P10.2: Share(%x, %d): %d %d, want %d", c.x, c.n, s, e, c.want)
		}
	}
}

func TestShareOfAnyNumber(t *testing.T) {
	shares := []int{1, 2, 3, 5, 7, 10, 16, 31, 32, 33, 100, 1023, 4096, 65535, 65536, 65537, 999999, mostShares/2 + 1, mostShares - 1, mostShares}
	for _, x := range words() {
		for _, n := range shares {
			want, _ := slowShare(x, n)
			if s, e := hash.Share(x, n); s != want || e != api.OK || s < 0 || s >= n {
				t.Errorf("P10.2: Share(%x, %d): %d %d, want %d", x, n, s, e, want)
			}
			if s, e := hash.Share(x^math.MaxUint32, n); s != want || e != api.OK {
				t.Errorf("P10.2: Share(%x, %d) hangs on the lowest 32 bits: %d %d, want %d", x, n, s, e, want)
			}
		}
	}
}

// TestShareEdges: each share begins at the first number whose highest 32 bits times n reach it.
func TestShareEdges(t *testing.T) {
	for _, n := range []int{2, 3, 7, 32, 1000, mostShares - 1, mostShares} {
		for _, share := range []int{1, n / 3, n / 2, n - 1} {
			if share == 0 {
				continue
			}
			high, rest := bits.Div64(uint64(share)>>32, uint64(share)<<32, uint64(n))
			if rest != 0 {
				high++
			}
			at := high << 32
			below, _ := hash.Share(at-1, n)
			on, _ := hash.Share(at, n)
			if below != share-1 || on != share {
				t.Errorf("P10.2: share %d of %d begins at %x: %d below it, %d on it", share, n, at, below, on)
			}
		}
	}
}

func TestShareErrors(t *testing.T) {
	for _, x := range words() {
		for _, n := range []int{0, -1, -2, -mostShares, mostShares + 1, 2 * mostShares, math.MaxInt32, math.MinInt32, 1 << 32, 1<<32 + 1, 1<<32 + mostShares, 1 << 62, math.MinInt, math.MinInt + 1, math.MaxInt} {
			if s, e := hash.Share(x, n); s != 0 || e != api.ErrRange {
				t.Errorf("P10.2: Share(%x, %d): %d %d, want error %d", x, n, s, e, api.ErrRange)
			}
		}
	}
}

func TestMixIsOneToOne(t *testing.T) {
	for _, x := range words() {
		if m := hash.Unmix(hash.Mix(x)); m != x {
			t.Errorf("P10.3: %x mixed is another's, too: %x", x, m)
		}
		if m := hash.Mix(hash.Unmix(x)); m != x {
			t.Errorf("P10.3: nothing mixed is %x", x)
		}
		for i := range 64 {
			for j := range i + 1 {
				other := x ^ 1<<i ^ 1<<j
				if other != x && hash.Mix(other) == hash.Mix(x) {
					t.Errorf("P10.3: %x and %x mixed are one", x, other)
				}
			}
		}
	}
}

// TestMixOfManyIsOneToOne: no two of many in a row, at either end of the bits, are one.
func TestMixOfManyIsOneToOne(t *testing.T) {
	const many = 1 << 19
	for _, shift := range []int{0, 22, 45} {
		l := make([]uint64, many)
		for i := range l {
			l[i] = hash.Mix(uint64(i) << shift)
		}
		slices.Sort(l)
		if n := len(slices.Compact(l)); n != many {
			t.Errorf("P10.3: %d numbers, shifted by %d, are %d mixed", many, shift, n)
		}
	}
}

// TestNotChanged: what is handed in stays, with the room behind it.
func TestNotChanged(t *testing.T) {
	names, counts := texts(), numbers()
	namesBefore, countsBefore := slices.Clone(names), slices.Clone(counts)
	for range 3 {
		hash.Of(7, names[:5]...)
		hash.Ints(7, counts[:5]...)
	}
	if !slices.Equal(names, namesBefore) || !slices.Equal(counts, countsBefore) {
		t.Error("P10.4: Of or Ints changes what it is given")
	}
}

// TestNotKept: a list that is changed behind a call changes no answer, and calls know nothing of each other.
func TestNotKept(t *testing.T) {
	names, counts := []string{"a", "b"}, []int{1, 2}
	of, ints := hash.Of(7, names...), hash.Ints(7, counts...)
	names[0], counts[0] = "c", 3
	if hash.Of(7, names...) != slowOf(7, "c", "b") || hash.Ints(7, counts...) != slowInts(7, 3, 2) {
		t.Error("P10.4: Of or Ints keeps what it was given")
	}
	hash.Share(7, -1)
	hash.Unmix(hash.Mix(8))
	if hash.Of(7, "a", "b") != of || hash.Ints(7, 1, 2) != ints {
		t.Error("P10.4: Of or Ints hangs on the calls ahead")
	}
}

// TestAtOnce: goroutines that call at the same time are told what one is told.
func TestAtOnce(t *testing.T) {
	want := [3]uint64{hash.Mix(5), hash.Of(5, "a", "b"), hash.Ints(5, 1, 2)}
	got := make([][3]uint64, 16)
	var all sync.WaitGroup
	for i := range got {
		all.Go(func() {
			for range 200 {
				got[i] = [3]uint64{hash.Mix(5), hash.Of(5, "a", "b"), hash.Ints(5, 1, 2)}
			}
		})
	}
	all.Wait()
	for i, g := range got {
		if g != want {
			t.Errorf("P10.4: goroutine %d is told %x, want %x", i, g, want)
		}
	}
}

// FuzzHash holds P10.1 to P10.3 for texts and numbers of any kind.
func FuzzHash(f *testing.F) {
	f.Add(uint64(0), "", "", 0, 0)
	f.Add(uint64(1<<63), "ab", "\xff", 10, -1)
	f.Add(uint64(math.MaxUint64), "\u00e9", "c", mostShares+1, math.MinInt)
	f.Fuzz(func(t *testing.T, x uint64, one, two string, n, k int) {
		if m := hash.Mix(x); m != slowMix(x) || hash.Unmix(m) != x {
			t.Errorf("P10.1, P10.3: Mix(%x): %x, and back %x", x, m, hash.Unmix(m))
		}
		if m := hash.Mix(hash.Unmix(x)); m != x {
			t.Errorf("P10.1, P10.3: Mix of Unmix(%x): %x", x, m)
		}
		if h := hash.Of(x, one, two); h != slowOf(x, one, two) {
			t.Errorf("P10.1: Of(%x, %q, %q): %x", x, one, two, h)
		}
		if h := hash.Ints(x, n, k); h != slowInts(x, n, k) {
			t.Errorf("P10.1: Ints(%x, %d, %d): %x", x, n, k, h)
		}
		want, wrong := slowShare(x, n)
		if s, e := hash.Share(x, n); s != want || e != wrong {
			t.Errorf("P10.2: Share(%x, %d): %d %d, want %d %d", x, n, s, e, want, wrong)
		}
	})
}
