package word

import (
	"bytes"
	"encoding/binary"
	"math"
	"testing"
)

// The words and the numbers that all tests of bits go through: some of each kind, and the edges.
var (
	someWords = []uint64{0, 1, 2, 0x1234, 0xb, 0x7fffffff, 0x80000000, 0x0123456789abcdef, 0xaaaaaaaaaaaaaaaa, 1 << 63, 1<<63 - 1, math.MaxUint64 - 1, math.MaxUint64}
	farCounts = []int{math.MinInt, math.MinInt + 1, -1000, -65, -64, -63, -8, -2, -1, 65, 66, 100, 127, 128, 129, 255, 256, 1 << 31, 1 << 32, 1<<32 + 4, math.MaxInt - 1, math.MaxInt}
)

// counts: all from 0 to 64, and those far off.
func counts() []int {
	l := append([]int{}, farCounts...)
	for i := 0; i <= 64; i++ {
		l = append(l, i)
	}
	return l
}

// pattern: bytes of which no two neighbours are alike, with room behind them that is no part of them.
func pattern(many int) []byte {
	b := make([]byte, many+16)
	for i := range b {
		b[i] = byte(i*37 + 5)
	}
	return b[:many]
}

// places: all about a text of that length, and those far off, of which some wrap round when 8 comes to them.
func places(many int) []int {
	l := []int{math.MinInt, math.MinInt + 8, -1 << 32, math.MaxInt, math.MaxInt - 7, math.MaxInt - 15, 1 << 32, 1 << 62}
	for at := -24; at <= many+24; at++ {
		l = append(l, at)
	}
	return l
}

// hasWord: what P1.1 says of a place, by a list of those that are right.
func hasWord(many, at int) bool {
	for right := 0; right+8 <= many; right += 8 {
		if at == right {
			return true
		}
	}
	return false
}

func TestGetLowestByteFirst(t *testing.T) { // P1.1
	b := []byte{1, 2, 3, 4, 5, 6, 7, 8, 0xff, 0, 0, 0, 0, 0, 0, 0x80}
	for _, c := range []struct {
		at   int
		want uint64
	}{{0, 0x0807060504030201}, {8, 0x80000000000000ff}} {
		if n, ok := Get(b, c.at); n != c.want || !ok {
			t.Errorf("Get at %d: %x, %v", c.at, n, ok)
		}
	}
}

func TestPutLowestByteFirst(t *testing.T) { // P1.1
	got, ok := Put([]byte{9, 9, 9, 9, 9, 9, 9, 9, 9}, 0, 0x80000000000000ff)
	if want := []byte{0xff, 0, 0, 0, 0, 0, 0, 0x80, 9}; !ok || !bytes.Equal(got, want) {
		t.Errorf("Put: %x, %v", got, ok)
	}
}

func TestGetAtAllPlaces(t *testing.T) { // P1.1
	for many := 0; many <= 33; many++ {
		b := pattern(many)
		for _, at := range places(many) {
			right := hasWord(many, at)
			var want uint64
			if right {
				want = binary.LittleEndian.Uint64(b[at:])
			}
			if n, ok := Get(b, at); n != want || ok != right {
				t.Errorf("Get of %d bytes at %d: %x, %v", many, at, n, ok)
			}
		}
		if !bytes.Equal(b, pattern(many)) {
			t.Errorf("Get of %d bytes changed what was handed in", many)
		}
	}
}

func TestPutAtAllPlaces(t *testing.T) { // P1.1, P1.4
	const n = 0x8102030405060799
	for many := 0; many <= 33; many++ {
		for _, at := range places(many) {
			b := pattern(many)
			want := append([]byte{}, b...)
			right := hasWord(many, at)
			if right {
				binary.LittleEndian.PutUint64(want[at:], n)
			}
			got, ok := Put(b, at, n)
			if !bytes.Equal(got, want) || ok != right {
				t.Errorf("Put in %d bytes at %d: %x, %v", many, at, got, ok)
			}
			if whole := pattern(many + 8); !bytes.Equal(b[:many+8], whole) {
				t.Errorf("Put in %d bytes at %d changed what was handed in, or what lies behind it", many, at)
			}
		}
	}
}

func TestNoBytes(t *testing.T) { // P1.1, R1
	if n, ok := Get(nil, 0); n != 0 || ok {
		t.Errorf("Get of none: %x, %v", n, ok)
	}
	if b, ok := Put(nil, 0, 7); len(b) != 0 || ok {
		t.Errorf("Put in none: %x, %v", b, ok)
	}
}

func TestPutAnswersNewMemory(t *testing.T) { // R6
	for _, at := range []int{0, 8, 1, -8, 16} {
		b := pattern(16)
		got, _ := Put(b, at, 3)
		want := append([]byte{}, got...)
		clear(b[:cap(b)])
		if !bytes.Equal(got, want) {
			t.Errorf("Put at %d: the answer hangs on what was handed in", at)
		}
		b = pattern(16)
		got, _ = Put(b, at, 3)
		clear(got[:cap(got)])
		if !bytes.Equal(b[:cap(b)], pattern(cap(b))) {
			t.Errorf("Put at %d: what was handed in hangs on the answer", at)
		}
	}
}

// fieldByBits and withByBits say P1.2 bit by bit.
func fieldByBits(n uint64, low, size int) uint64 {
	low = max(low, 0)
	var out uint64
	for i := 0; i < size && i < 64; i++ {
		if low < 64-i && n&(1<<(low+i)) != 0 {
			out += 1 << i
		}
	}
	return out
}

func withByBits(n uint64, low, size int, v uint64) uint64 {
	low = max(low, 0)
	for i := 0; i < size && i < 64; i++ {
		if low >= 64-i {
			continue
		}
		bit := uint64(1) << (low + i)
		if n&bit != 0 {
			n -= bit
		}
		if v&(1<<i) != 0 {
			n += bit
		}
	}
	return n
}

func TestField(t *testing.T) { // P1.2
	const all = math.MaxUint64
	for _, c := range []struct {
		n         uint64
		low, size int
		want      uint64
	}{
		{0x1234, 4, 8, 0x23},
		{0x1234, 0, 16, 0x1234},
		{0x1234, -4, 8, 0x34},
		{0x1234, math.MinInt, 4, 4},
		{0x1234, 4, -8, 0},
		{0x1234, 4, math.MinInt, 0},
		{all, 0, 0, 0},
		{all, 0, 63, all >> 1},
		{all, 0, 64, all},
		{all, 0, 65, all},
		{all, -1, 64, all},
		{all, 60, 4, 15},
		{all, 60, 5, 15},
		{all, 63, 64, 1},
		{all, 64, 1, 0},
		{all, 65, 64, 0},
		{all, 63, math.MaxInt, 1},
		{all, math.MaxInt, math.MaxInt, 0},
	} {
		if n := Field(c.n, c.low, c.size); n != c.want {
			t.Errorf("Field(%x, %d, %d): %x", c.n, c.low, c.size, n)
		}
	}
}

func TestWith(t *testing.T) { // P1.2
	const all = math.MaxUint64
	for _, c := range []struct {
		n         uint64
		low, size int
		v, want   uint64
	}{
		{0x1234, 4, 8, 0xab, 0x1ab4},
		{0x1234, 4, 8, 0xfab, 0x1ab4},
		{0x1234, -4, 8, 0xab, 0x12ab},
		{0x1234, math.MinInt, 4, 0, 0x1230},
		{0x1234, 4, 0, all, 0x1234},
		{0x1234, 4, -8, all, 0x1234},
		{0x1234, 4, math.MinInt, all, 0x1234},
		{all, 0, 63, 0, 1 << 63},
		{all, 0, 64, 5, 5},
		{all, 0, 65, 5, 5},
		{all, 60, 8, 0, all >> 4},
		{0, 60, 8, 0xff, 15 << 60},
		{0, 63, 64, all, 1 << 63},
		{7, 64, 1, all, 7},
		{7, 64, 64, all, 7},
		{7, math.MaxInt, math.MaxInt, all, 7},
		{7, 63, math.MaxInt, all, 1<<63 + 7},
	} {
		if n := With(c.n, c.low, c.size, c.v); n != c.want {
			t.Errorf("With(%x, %d, %d, %x): %x", c.n, c.low, c.size, c.v, n)
		}
	}
}

func TestFieldAndWithBitByBit(t *testing.T) { // P1.2
	values := []uint64{0, math.MaxUint64, 0x0123456789abcdef, 0x5555555555555555}
	for _, low := range counts() {
		for _, size := range counts() {
			for _, n := range someWords {
				if got, want := Field(n, low, size), fieldByBits(n, low, size); got != want {
					t.Fatalf("Field(%x, %d, %d): %x, not %x", n, low, size, got, want)
				}
				for _, v := range values {
					if got, want := With(n, low, size, v), withByBits(n, low, size, v); got != want {
						t.Fatalf("With(%x, %d, %d, %x): %x, not %x", n, low, size, v, got, want)
					}
				}
			}
		}
	}
}

func TestLow(t *testing.T) { // P1.3
	const all = math.MaxUint64
	for _, c := range []struct {
		n    uint64
		many int
		want int
	}{
		{0b1011, 4, 2},
		{0b1011, 3, 2},
		{0b1011, 2, -1},
		{0b1111, 4, -1},
		{0b1111, 5, 4},
		{0, 1, 0},
		{0, 0, -1},
		{0, -1, -1},
		{0, math.MinInt, -1},
		{0, math.MaxInt, 0},
		{all, 0, -1},
		{all, 63, -1},
		{all, 64, -1},
		{all, 65, -1},
		{all, 100, -1},
		{all, math.MaxInt, -1},
		{all, math.MinInt, -1},
		{all >> 1, 63, -1},
		{all >> 1, 64, 63},
		{all >> 1, 65, 63},
		{all >> 1, math.MaxInt, 63},
	} {
		if at := Low(c.n, c.many); at != c.want {
			t.Errorf("Low(%x, %d): %d", c.n, c.many, at)
		}
	}
}

// lowByBits says P1.3 bit by bit.
func lowByBits(n uint64, many int) int {
	for i := 0; i < 64 && i < many; i++ {
		if n>>i%2 == 0 {
			return i
		}
	}
	return -1
}

func TestLowBitByBit(t *testing.T) { // P1.3
	for _, many := range counts() {
		for at := range 64 {
			for _, n := range append([]uint64{1<<at - 1, math.MaxUint64 - 1<<at}, someWords...) {
				if got, want := Low(n, many), lowByBits(n, many); got != want {
					t.Fatalf("Low(%x, %d): %d, not %d", n, many, got, want)
				}
			}
		}
	}
}

func TestWordsComeBack(t *testing.T) { // P1.4
	const many = 40
	for at := 0; at < many; at += 8 {
		for _, n := range someWords {
			b, ok := Put(pattern(many), at, n)
			if got, is := Get(b, at); !ok || !is || got != n {
				t.Errorf("%x at %d came back as %x: %v, %v", n, at, got, ok, is)
			}
			for other := 0; other < many; other += 8 {
				was, _ := Get(pattern(many), other)
				if is, _ := Get(b, other); other != at && is != was {
					t.Errorf("%x at %d: the word at %d is %x, was %x", n, at, other, is, was)
				}
			}
		}
	}
}

func TestBitsComeBack(t *testing.T) { // P1.4
	const v = 0xfedcba9876543210
	for _, n := range someWords {
		for low := range 64 {
			for size := 0; low+size <= 64; size++ {
				w := With(n, low, size, v)
				if got, want := Field(w, low, size), Field(v, 0, size); got != want {
					t.Fatalf("With(%x, %d, %d): %x came back, not %x", n, low, size, got, want)
				}
				if Field(w, 0, low) != Field(n, 0, low) || Field(w, low+size, 64) != Field(n, low+size, 64) {
					t.Fatalf("With(%x, %d, %d): other bits, %x", n, low, size, w)
				}
				if back := With(w, low, size, Field(n, low, size)); back != n {
					t.Fatalf("With(%x, %d, %d) and back: %x", n, low, size, back)
				}
			}
		}
	}
}
