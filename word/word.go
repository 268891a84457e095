// Package word is layer 1: see shared/doc/01-word.md.
package word

import "math/bits"

const (
	wordBytes = 8
	wordBits  = 64
)

// Get: the word at a place of bytes.
func Get(b []byte, at int) (uint64, bool) {
	if !stands(b, at) {
		return 0, false
	}
	var n uint64
	for i := range wordBytes {
		n |= uint64(b[at+i]) << (8 * i)
	}
	return n, true
}

// Put: bytes with another word at a place.
func Put(b []byte, at int, n uint64) ([]byte, bool) {
	out := make([]byte, len(b))
	copy(out, b)
	if !stands(out, at) {
		return out, false
	}
	for i := range wordBytes {
		out[at+i] = byte(n >> (8 * i))
	}
	return out, true
}

// stands: is there a word at a place of bytes?
func stands(b []byte, at int) bool {
	// The length is what 8 is taken from: 8 more than a great place wraps round.
	return at >= 0 && at%wordBytes == 0 && at <= len(b)-wordBytes
}

// Field: some bits of a word.
func Field(n uint64, low, size int) uint64 {
	return n >> max(low, 0) & ones(size)
}

// With: a word with other ones of some bits.
func With(n uint64, low, size int, v uint64) uint64 {
	low = max(low, 0)
	place := ones(size) << low
	return n&^place | v<<low&place
}

// ones: a word of which so many bits are set, the lowest ones.
func ones(many int) uint64 {
	// A shift by 64 and above leaves 0, and 0 less 1 is all bits: no case of its own.
	return uint64(1)<<max(many, 0) - 1
}

// Low: the lowest bit that is not set, of the first so many; -1: all are.
func Low(n uint64, many int) int {
	at := bits.TrailingZeros64(^n)
	if at < min(many, wordBits) {
		return at
	}
	return -1
}
