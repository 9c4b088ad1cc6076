// Package varint is layer 1, numbers as octets: see shared/doc/01-varint.md.
package varint

import "waybill/api"

const (
	octetBits  = 7
	moreBit    = 1 << octetBits
	maxOctets  = 10
	maxNumbers = 4096
)

// Put answers b, and the numbers behind it.
func Put(b []byte, l ...uint64) []byte {
	out := fresh(b)
	for _, n := range l {
		out = putOne(out, n)
	}
	return out
}

// Get answers the number that begins at that place, and where it ends.
func Get(b []byte, at int) (uint64, int, api.Errno) {
	if at < 0 || at > len(b) {
		return 0, 0, api.ErrRange
	}
	n := uint64(0)
	for i, c := range b[at:] {
		if !mayStand(i, c) {
			return 0, 0, api.ErrCorrupt
		}
		n |= uint64(c%moreBit) << (octetBits * i)
		if c < moreBit {
			return n, at + i + 1, api.OK
		}
	}
	return 0, 0, api.ErrShort
}

// Size tells how many octets n has.
func Size(n uint64) int {
	size := 1
	for n >= moreBit {
		n >>= octetBits
		size++
	}
	return size
}

// Zig folds the numbers below 0 in between the others.
func Zig(n int) uint64 {
	if n >= 0 {
		return 2 * uint64(n)
	}
	// -n is no int for the lowest n of all, -(n + 1) always is.
	return 2*uint64(-(n+1)) + 1
}

// Zag answers whose Zig n is.
func Zag(n uint64) int {
	half := int(n / 2)
	if n%2 == 0 {
		return half
	}
	return -half - 1
}

// All answers all numbers of b.
func All(b []byte) ([]uint64, api.Errno) {
	var l []uint64
	for at := 0; at < len(b); {
		n, end, e := Get(b, at)
		if e != api.OK {
			return nil, e
		}
		// Only behind Get: a number too many must be one that may be.
		if len(l) == maxNumbers {
			return nil, api.ErrCount
		}
		l = append(l, n)
		at = end
	}
	return l, api.OK
}

// Texts answers b, and of each text its length and itself.
func Texts(b []byte, l ...[]byte) []byte {
	out := fresh(b)
	for _, text := range l {
		out = putOne(out, uint64(len(text)))
		out = append(out, text...)
	}
	return out
}

// Text answers the text of at most most octets that begins at that place, and where it ends.
func Text(b []byte, at int, most int) ([]byte, int, api.Errno) {
	n, start, e := Get(b, at)
	if e != api.OK {
		return nil, 0, e
	}
	if most < 0 || n > uint64(most) {
		return nil, 0, api.ErrLong
	}
	// Held against what is left, for start + n may be more than an int holds.
	if n > uint64(len(b)-start) {
		return nil, 0, api.ErrShort
	}
	end := start + int(n)
	return fresh(b[start:end]), end, api.OK
}

// fresh copies b, so that nothing is written into room behind a caller's slice.
func fresh(b []byte) []byte {
	return append([]byte{}, b...)
}

// putOne writes into b's own room: b must be ours.
func putOne(b []byte, n uint64) []byte {
	for n >= moreBit {
		b = append(b, byte(n%moreBit+moreBit))
		n >>= octetBits
	}
	return append(b, byte(n))
}

// mayStand tells if some number has octet c at index i, whatever comes behind it.
func mayStand(i int, c byte) bool {
	if i == maxOctets-1 {
		// Bit 63 alone is left: 0 is a needless octet, any other is 2^64 or an eleventh octet to come.
		return c == 1
	}
	return i == 0 || c != 0
}
