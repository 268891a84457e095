package crc

import (
	"bytes"
	"hash/crc32"
	"math"
	"testing"
)

// The sums that the tests go on from: none, the example's, all bits, and some of each kind.
var someSums = []uint32{0, 1, 2, 0xe3069283, 0x7fffffff, 0x80000000, 0x82f63b78, 0x01234567, 0xaaaaaaaa, math.MaxUint32 - 1, math.MaxUint32}

// A device is 65536 bytes at most; the others lie about the sizes of words and lines.
var someLengths = []int{0, 1, 2, 3, 4, 5, 7, 8, 9, 15, 16, 17, 31, 32, 33, 48, 63, 64, 65, 255, 256, 257, 1000, 65536}

// bitByBit says P2.1 word for word.
func bitByBit(sum uint32, b []byte) uint32 {
	x := sum ^ math.MaxUint32
	for _, c := range b {
		x ^= uint32(c)
		for range 8 {
			if x%2 == 0 {
				x /= 2
			} else {
				x = x/2 ^ 0x82f63b78
			}
		}
	}
	return x ^ math.MaxUint32
}

// pattern: bytes of which no two neighbours are alike, with room behind them that is no part of them.
func pattern(many int) []byte {
	b := make([]byte, many+16)
	for i := range b {
		b[i] = byte(i*37 + i/256*11 + 5)
	}
	return b[:many]
}

// texts: no bytes, zeros, all bits set, and a pattern, of each of the lengths.
func texts() [][]byte {
	l := [][]byte{nil, []byte("123456789")}
	for _, many := range someLengths {
		l = append(l, make([]byte, many), bytes.Repeat([]byte{0xff}, many), pattern(many))
	}
	return l
}

// theirs: the sum of bytes, as Go's library has it.
func theirs(sum uint32, b []byte) uint32 {
	return crc32.Update(sum, crc32.MakeTable(crc32.Castagnoli), b)
}

func TestTexts(t *testing.T) { // P2.1, P2.2: numbers that others have published
	rising, falling := make([]byte, 32), make([]byte, 32)
	for i := range 32 {
		rising[i], falling[i] = byte(i), byte(31-i)
	}
	for _, c := range []struct {
		b    []byte
		want uint32
	}{
		{nil, 0},
		{[]byte{}, 0},
		{[]byte("123456789"), 0xe3069283},
		{[]byte("a"), 0xc1d04330},
		{[]byte{0}, 0x527d5351},
		{make([]byte, 32), 0x8a9136aa},
		{bytes.Repeat([]byte{0xff}, 32), 0x62a8ab43},
		{rising, 0x46dd794e},
		{falling, 0x113fdb5c},
	} {
		if n := Sum(c.b); n != c.want {
			t.Errorf("Sum of %x: %08x, not %08x", c.b, n, c.want)
		}
		if n := Next(0, c.b); n != c.want {
			t.Errorf("Next of 0 and %x: %08x, not %08x", c.b, n, c.want)
		}
	}
}

func TestNoBytes(t *testing.T) { // P2.1, R8
	for _, sum := range someSums {
		if n := Next(sum, nil); n != sum {
			t.Errorf("Next of %08x and nil: %08x", sum, n)
		}
		if n := Next(sum, []byte{}); n != sum {
			t.Errorf("Next of %08x and no bytes: %08x", sum, n)
		}
		if n := Next(sum, pattern(16)[8:8]); n != sum {
			t.Errorf("Next of %08x and an empty piece of bytes: %08x", sum, n)
		}
	}
	if n := Sum(nil); n != 0 {
		t.Errorf("Sum of nil: %08x", n)
	}
	if n := Sum([]byte{}); n != 0 {
		t.Errorf("Sum of no bytes: %08x", n)
	}
}

func TestNextOfOneByte(t *testing.T) { // P2.1: each byte, and so each row of the table, from each sum
	for _, sum := range someSums {
		for c := range 256 {
			b := []byte{byte(c)}
			if n, want := Next(sum, b), bitByBit(sum, b); n != want {
				t.Errorf("Next of %08x and %x: %08x, not %08x", sum, b, n, want)
			}
		}
	}
}

func TestNext(t *testing.T) { // P2.1
	for _, sum := range someSums {
		for _, b := range texts() {
			n, want := Next(sum, b), bitByBit(sum, b)
			if n != want || n != theirs(sum, b) {
				t.Errorf("Next of %08x and %d bytes: %08x, not %08x", sum, len(b), n, want)
			}
		}
	}
}

func TestSum(t *testing.T) { // P2.2
	for _, b := range texts() {
		n, want := Sum(b), bitByBit(0, b)
		if n != want || n != Next(0, b) {
			t.Errorf("Sum of %d bytes: %08x, not %08x", len(b), n, want)
		}
	}
}

func TestTwoPieces(t *testing.T) { // P2.3: cut at each place, the two ends too, of which one piece is empty
	b := pattern(130)
	for _, sum := range someSums {
		whole := Next(sum, b)
		for cut := range len(b) + 1 {
			if n := Next(Next(sum, b[:cut]), b[cut:]); n != whole {
				t.Errorf("from %08x, cut at %d: %08x, not %08x", sum, cut, n, whole)
			}
		}
	}
	for cut := range len(b) + 1 {
		if n := Next(Sum(b[:cut]), b[cut:]); n != Sum(b) {
			t.Errorf("cut at %d: %08x, not %08x", cut, n, Sum(b))
		}
	}
}

func TestManyPieces(t *testing.T) { // P2.3: pieces of one size, with empty ones between them
	for _, many := range someLengths {
		b := pattern(many)
		for _, size := range []int{1, 2, 3, 7, 8, 64, 1000} {
			n := Next(Sum(nil), nil)
			for rest := b; len(rest) > 0; {
				piece := rest[:min(size, len(rest))]
				rest = rest[len(piece):]
				n = Next(Next(n, piece), []byte{})
			}
			if n != Sum(b) {
				t.Errorf("%d bytes in pieces of %d: %08x, not %08x", many, size, n, Sum(b))
			}
		}
	}
}

// turn: a copy of a text with so many bits in a row turned, from a bit on, the lowest bit of a byte first.
func turn(b []byte, from, many int) []byte {
	out := append([]byte{}, b...)
	for i := from; i < from+many; i++ {
		out[i/8] ^= 1 << (i % 8)
	}
	return out
}

// turnHigh: the same, the highest bit of a byte first.
func turnHigh(b []byte, from, many int) []byte {
	out := append([]byte{}, b...)
	for i := from; i < from+many; i++ {
		out[i/8] ^= 0x80 >> (i % 8)
	}
	return out
}

// differ: fails unless the sums of two texts differ, from whichever sum they go on.
func differ(t *testing.T, what string, at int, b, other []byte) {
	t.Helper()
	for _, sum := range someSums {
		if Next(sum, b) == Next(sum, other) {
			t.Errorf("%d bytes, %s at %d: both sums from %08x are %08x", len(b), what, at, sum, Next(sum, b))
		}
	}
	if Sum(b) == Sum(other) {
		t.Errorf("%d bytes, %s at %d: both sums are %08x", len(b), what, at, Sum(b))
	}
}

func TestOneByteTurned(t *testing.T) { // P2.4
	for _, many := range []int{1, 2, 3, 8, 9, 48, 64} {
		b := pattern(many)
		for at := range b {
			differ(t, "a byte turned", at, b, turn(b, 8*at, 8))
		}
	}
}

func TestOneByteAnother(t *testing.T) { // P2.4: some bits of one byte turned, all ways of it
	b := pattern(9)
	for at := range b {
		for bits := 1; bits < 256; bits++ {
			other := append([]byte{}, b...)
			other[at] ^= byte(bits)
			differ(t, "another byte", at, b, other)
		}
	}
}

func TestBitsTurned(t *testing.T) { // P2.4: 1 to 32 bits in a row, from each bit on, a byte's bits told from either end
	for _, many := range []int{1, 2, 4, 5, 9, 16} {
		b := pattern(many)
		for size := 1; size <= min(32, 8*many); size++ {
			for from := 0; from+size <= 8*many; from++ {
				differ(t, "bits turned", from, b, turn(b, from, size))
				differ(t, "bits turned, the highest first", from, b, turnHigh(b, from, size))
			}
		}
	}
}

func TestSomeOfTheBitsTurned(t *testing.T) { // P2.4: any of 32 bits in a row
	b := pattern(16)
	mask := uint32(0x9e3779b9)
	for from := 0; from+32 <= 8*len(b); from++ {
		for range 50 {
			mask = mask*1664525 + 1013904223
			other := append([]byte{}, b...)
			for i := range 32 {
				other[(from+i)/8] ^= byte(mask>>i&1) << ((from + i) % 8)
			}
			differ(t, "some bits turned", from, b, other)
		}
	}
}

func TestTurnedInALongText(t *testing.T) { // P2.4: at the beginning, in the middle, at the end
	b := pattern(65536)
	all := 8 * len(b)
	for _, size := range []int{1, 2, 8, 31, 32} {
		for _, from := range []int{0, 1, 7, 8, all / 2, all/2 + 3, all - size - 1, all - size} {
			if other := turn(b, from, size); Sum(b) == Sum(other) {
				t.Errorf("%d bits turned at %d: both sums are %08x", size, from, Sum(b))
			}
		}
	}
}

func TestHandedInStays(t *testing.T) { // R6: what was handed in, and what lies behind it
	for _, many := range someLengths {
		b := pattern(many)
		Sum(b)
		Next(0xe3069283, b)
		if !bytes.Equal(b[:cap(b)], pattern(many + 16)[:cap(b)]) {
			t.Errorf("%d bytes were changed", many)
		}
	}
}

func TestAnswersHangOnArgumentsAlone(t *testing.T) { // R4, R6: nothing is kept of a call, and nothing of the memory behind a text
	b := pattern(64)
	sum, next := Sum(b), Next(5, b)
	rest := b[len(b):cap(b)]
	for i := range rest {
		rest[i] ^= 0xff
	}
	Sum(bytes.Repeat([]byte{0xff}, 100))
	if Sum(b) != sum || Next(5, b) != next {
		t.Error("the same bytes, another sum")
	}
	b[0] ^= 1
	if Sum(b) == sum || Next(5, b) == next {
		t.Error("other bytes in the same memory, the same sum")
	}
}
