package nib

import (
	"math"
	"slices"
	"strconv"
	"strings"
	"testing"
)

// nibblesByHand says P8.1's Of: a byte's two digits, as hexadecimal text.
func nibblesByHand(key string) []byte {
	var l []byte
	for _, b := range []byte(key) {
		text := strconv.FormatUint(0x100+uint64(b), 16)
		for _, digit := range text[1:] {
			l = append(l, byte(strings.IndexRune("0123456789abcdef", digit)))
		}
	}
	return l
}

// keyByHand says P8.1's Key: the bytes are added up.
func keyByHand(l []byte) (string, bool) {
	if len(l)%2 == 1 || noneAt(l) >= 0 {
		return "", false
	}
	var key []byte
	for i := 0; i < len(l); i += 2 {
		key = append(key, 16*l[i]+l[i+1])
	}
	return string(key), true
}

// noneAt: the place of the first number that is no nibble; -1: all are.
func noneAt(l []byte) int {
	for i, n := range l {
		if n >= 16 {
			return i
		}
	}
	return -1
}

// commonByHand says P8.2: each n is tried, the greatest first.
func commonByHand(a, b []byte) int {
	for n := min(len(a), len(b)); n > 0; n-- {
		if slices.Equal(a[:n], b[:n]) {
			return n
		}
	}
	return 0
}

// lessByHand says P8.2: texts are held against each other.
func lessByHand(a, b []byte) bool {
	return string(a) < string(b)
}

// packByHand says P8.3's Pack: the word's digits, as hexadecimal text, of which the last one is how many.
func packByHand(l []byte) (uint64, bool) {
	if len(l) > 15 || noneAt(l) >= 0 {
		return 0, false
	}
	text := strconv.FormatInt(int64(len(l)), 16)
	for _, n := range l {
		text = strconv.FormatInt(int64(n), 16) + text
	}
	w, err := strconv.ParseUint(text, 16, 64)
	return w, err == nil
}

// unpackByHand says P8.3's Unpack: the digits ahead of the last one, from behind, as many as that says; those ahead of them are 0.
func unpackByHand(w uint64) ([]byte, bool) {
	digits := nibblesByHand(string([]byte{byte(w >> 56), byte(w >> 48), byte(w >> 40), byte(w >> 32), byte(w >> 24), byte(w >> 16), byte(w >> 8), byte(w)}))
	slices.Reverse(digits)
	many := int(digits[0])
	for _, n := range digits[1+many:] {
		if n != 0 {
			return nil, false
		}
	}
	return digits[1 : 1+many], true
}

// sameNumbers: so many times the same one.
func sameNumbers(n byte, many int) []byte {
	return slices.Repeat([]byte{n}, many)
}

// risingNibbles: 1, 2, .. 15, 0, 1, .. so many.
func risingNibbles(many int) []byte {
	var l []byte
	for i := range many {
		l = append(l, byte((i+1)%16))
	}
	return l
}

// with: a list with another number at a place.
func with(l []byte, at int, n byte) []byte {
	l = slices.Clone(l)
	l[at] = n
	return l
}

// listsOf: all lists of so many of these numbers, and of fewer.
func listsOf(numbers []byte, most int) [][]byte {
	l := [][]byte{{}}
	for from := 0; most > 0; most-- {
		to := len(l)
		for _, shorter := range l[from:to] {
			for _, n := range numbers {
				l = append(l, append(slices.Clone(shorter), n))
			}
		}
		from = to
	}
	return l
}

// noNibbles: the numbers that are none.
func noNibbles() []byte {
	var l []byte
	for n := 16; n < 256; n++ {
		l = append(l, byte(n))
	}
	return l
}

// someKeys: texts, bytes that are no texts, short ones, and long ones.
func someKeys() []string {
	l := []string{
		"", "a", "b", "ab", "aa", "abc", "A", "~", " ", "\n", "\x00", "\x00\x00", "\x00a", "a\x00", "a\x00b", "\x0f", "\xf0", "\xff", "\xff\xff", "\x7f", "\x80",
		"\u00e4", "\u20ac", "\u65e5\u672c", "\U0001f600", "a\u00e4b", "\xc3", "\xa4", "\xe2\x82", "\xed\xa0\x80", "\xf8\x88\x80\x80\x80", "\xc0\x80", "a\xffb", "\xfe\xff", "\ufffd", "\xef\xbb\xbfa",
		"0123456789abcdef", "0123456789abcdefg", strings.Repeat("\xff", 16), strings.Repeat("\x00", 16), strings.Repeat("\xa5", 17), strings.Repeat("ab", 500), strings.Repeat("\x80\x01\u00e4", 30000),
	}
	for b := range 256 {
		l = append(l, string([]byte{byte(b)}), string([]byte{'k', byte(b), byte(255 - b)}))
	}
	return l
}

func TestMost(t *testing.T) {
	if Most != 15 {
		t.Errorf("Most: %d", Most)
	}
}

func TestKeysByName(t *testing.T) { // P8.1: some keys and their nibbles, as numbers
	for _, c := range []struct {
		key string
		l   []byte
	}{
		{"", nil},
		{"a", []byte{6, 1}},
		{"ab", []byte{6, 1, 6, 2}},
		{"ba", []byte{6, 2, 6, 1}},
		{"\x00", []byte{0, 0}},
		{"\x00\x00", []byte{0, 0, 0, 0}},
		{"\x01", []byte{0, 1}},
		{"\x0f", []byte{0, 15}},
		{"\x10", []byte{1, 0}},
		{"\x7f", []byte{7, 15}},
		{"\x80", []byte{8, 0}},
		{"\xf0", []byte{15, 0}},
		{"\xff", []byte{15, 15}},
		{"\xff\x00\xa5", []byte{15, 15, 0, 0, 10, 5}},
		{"\u00e4", []byte{12, 3, 10, 4}},
		{"\u20ac!", []byte{14, 2, 8, 2, 10, 12, 2, 1}},
		{"\xe2\x82", []byte{14, 2, 8, 2}},
	} {
		if l := Of(c.key); !slices.Equal(l, c.l) {
			t.Errorf("Of(%q): %v, not %v", c.key, l, c.l)
		}
		if key, ok := Key(c.l); key != c.key || !ok {
			t.Errorf("Key(%v): %q, %v, not %q", c.l, key, ok, c.key)
		}
	}
	if key, ok := Key([]byte{}); key != "" || !ok {
		t.Errorf("Key of no nibbles: %q, %v", key, ok)
	}
}

func TestKeysByHand(t *testing.T) { // P8.1: each byte there is, and bytes that are no text
	for _, key := range someKeys() {
		by := nibblesByHand(key)
		if l := Of(key); !slices.Equal(l, by) {
			t.Fatalf("Of(%q): %v, not %v", key, l, by)
		}
		if back, ok := Key(by); back != key || !ok {
			t.Fatalf("Key(%v): %q, %v, not %q", by, back, ok, key)
		}
	}
	for high := range 256 {
		for low := range 256 {
			key := string([]byte{byte(high), byte(low)})
			l := []byte{byte(high / 16), byte(high % 16), byte(low / 16), byte(low % 16)}
			if of := Of(key); !slices.Equal(of, l) {
				t.Fatalf("Of(%q): %v, not %v", key, of, l)
			}
			if back, ok := Key(l); back != key || !ok {
				t.Fatalf("Key(%v): %q, %v, not %q", l, back, ok, key)
			}
		}
	}
}

func TestNoKey(t *testing.T) { // P8.1, R3: of an odd length, or with a number that is no nibble
	for _, l := range [][]byte{{0}, {6}, {15}, {16}, {255}, {6, 1, 6}, {0, 0, 0}, {16, 1}, {6, 16}, {255, 1}, {6, 255}, {16, 16}, {255, 255}, {6, 1, 16, 1}, {6, 1, 6, 16}, {16, 1, 6}, {6, 1, 255}, {0x61, 0x62}} {
		if key, ok := Key(l); key != "" || ok {
			t.Errorf("Key(%v): %q, %v", l, key, ok)
		}
	}
	for many := range 70 {
		l := risingNibbles(many)
		key, ok := Key(l)
		if by, is := keyByHand(l); key != by || ok != is || ok != (many%2 == 0) {
			t.Errorf("Key of %d nibbles: %q, %v, not %q, %v", many, key, ok, by, is)
		}
		for at := range many {
			for _, n := range noNibbles() {
				if key, ok := Key(with(l, at, n)); key != "" || ok {
					t.Fatalf("Key of %d numbers, %d at the place %d: %q, %v", many, n, at, key, ok)
				}
			}
		}
	}
	for _, l := range [][]byte{sameNumbers(1, 1<<20+1), with(sameNumbers(1, 1<<20), 1<<20-1, 16), with(sameNumbers(1, 1<<20), 0, 255), with(sameNumbers(1, 1<<20), 1<<19, 16)} {
		if key, ok := Key(l); key != "" || ok {
			t.Errorf("Key of %d numbers: %d bytes, %v", len(l), len(key), ok)
		}
	}
}

func TestAllShortLists(t *testing.T) { // P8.1, P8.3: of nibbles and others
	for _, l := range append(listsOf([]byte{0, 1, 2, 7, 8, 14, 15, 16, 17, 31, 32, 127, 128, 240, 255}, 4), listsOf(risingNibbles(16), 4)...) {
		key, ok := Key(l)
		if by, is := keyByHand(l); key != by || ok != is {
			t.Fatalf("Key(%v): %q, %v, not %q, %v", l, key, ok, by, is)
		}
		w, ok := Pack(l)
		if by, is := packByHand(l); w != by || ok != is {
			t.Fatalf("Pack(%v): %#x, %v, not %#x, %v", l, w, ok, by, is)
		}
	}
}

// listPair is two lists, with how many they begin alike, and whether the first one stands ahead, or the second one.
type listPair struct {
	a, b        []byte
	common      int
	less, above bool
}

// pairsByName: the edges, as numbers.
func pairsByName() []listPair {
	long := risingNibbles(1000)
	return []listPair{
		{nil, nil, 0, false, false},
		{nil, []byte{}, 0, false, false},
		{[]byte{}, []byte{}, 0, false, false},
		{nil, []byte{0}, 0, true, false},
		{[]byte{}, []byte{15}, 0, true, false},
		{nil, []byte{255}, 0, true, false},
		{[]byte{0}, []byte{0}, 1, false, false},
		{[]byte{0}, []byte{0, 0}, 1, true, false},
		{[]byte{0}, []byte{1}, 0, true, false},
		{[]byte{14}, []byte{15}, 0, true, false},
		{[]byte{0, 15}, []byte{1}, 0, true, false},
		{[]byte{0, 15, 15}, []byte{1, 0}, 0, true, false},
		{[]byte{6, 1}, []byte{6, 1}, 2, false, false},
		{[]byte{6, 1}, []byte{6, 1, 0}, 2, true, false},
		{[]byte{6, 1}, []byte{6, 2}, 1, true, false},
		{[]byte{6, 1, 9}, []byte{6, 2, 9}, 1, true, false},
		{[]byte{6, 1, 9}, []byte{7, 1, 9}, 0, true, false},
		{[]byte{6, 1, 8}, []byte{6, 1, 9}, 2, true, false},
		{[]byte{6, 1, 15}, []byte{6, 2}, 1, true, false},
		{[]byte{1, 9}, []byte{2, 8}, 0, true, false},
		{[]byte{9}, []byte{10}, 0, true, false},
		{[]byte{9}, []byte{1, 0}, 0, false, true},
		{[]byte{15}, []byte{16}, 0, true, false},
		{[]byte{127}, []byte{128}, 0, true, false},
		{[]byte{0}, []byte{255}, 0, true, false},
		{[]byte{1}, []byte{128}, 0, true, false},
		{[]byte{0}, []byte{16}, 0, true, false},
		{[]byte{1}, []byte{17}, 0, true, false},
		{[]byte{254}, []byte{255}, 0, true, false},
		{[]byte{16, 255}, []byte{16, 255}, 2, false, false},
		{[]byte{16, 255}, []byte{16, 255, 0}, 2, true, false},
		{[]byte{255, 16, 1}, []byte{255, 16, 2}, 2, true, false},
		{[]byte{3, 16, 3}, []byte{3, 255, 3}, 1, true, false},
		{long, long, 1000, false, false},
		{long[:999], long, 999, true, false},
		{long, with(long, 999, 15), 999, true, false},
		{long, with(long, 500, 15), 500, true, false},
		{long, with(long, 0, 15), 0, true, false},
		{long, with(long, 300, 255), 300, true, false},
		{long[:256], long, 256, true, false},
	}
}

func TestCommonAndLessByName(t *testing.T) { // P8.2: each pair both ways round
	for _, c := range pairsByName() {
		if n, m := Common(c.a, c.b), Common(c.b, c.a); n != c.common || m != c.common {
			t.Errorf("Common of %v and %v: %d, the other way round %d, not %d", c.a, c.b, n, m, c.common)
		}
		if less, above := Less(c.a, c.b), Less(c.b, c.a); less != c.less || above != c.above {
			t.Errorf("Less of %v and %v: %v, the other way round %v", c.a, c.b, less, above)
		}
	}
}

func TestCommonAndLessByHand(t *testing.T) { // P8.2: all short lists of some numbers, nibbles or not
	l := append(listsOf([]byte{0, 1, 15, 16, 128, 255}, 3), listsOf([]byte{0, 15, 16}, 5)...)
	for _, a := range l {
		for _, b := range l {
			if n := Common(a, b); n != commonByHand(a, b) {
				t.Fatalf("Common(%v, %v): %d", a, b, n)
			}
			if less := Less(a, b); less != lessByHand(a, b) {
				t.Fatalf("Less(%v, %v): %v", a, b, less)
			}
		}
	}
}

func TestEachPlaceOfAPair(t *testing.T) { // P8.2: lists that differ at one place alone, and parts of one list
	for many := range 40 {
		a := risingNibbles(many)
		for at := range many {
			for _, n := range []byte{0, 1, 14, 15, 16, 128, 255} {
				b := with(a, at, n)
				common, less := at, a[at] < n
				if a[at] == n {
					common = many
				}
				if is := Common(a, b); is != common {
					t.Fatalf("%d nibbles, %d at the place %d: Common %d, not %d", many, n, at, is, common)
				}
				if is := Less(a, b); is != less {
					t.Fatalf("%d nibbles, %d at the place %d: Less %v", many, n, at, is)
				}
			}
			if n, less, above := Common(a[:at], a), Less(a[:at], a), Less(a, a[:at]); n != at || !less || above {
				t.Fatalf("the first %d of %d: Common %d, Less %v, the other way round %v", at, many, n, less, above)
			}
		}
	}
}

func TestWordsByName(t *testing.T) { // P8.3: some lists and their words, as numbers
	for _, c := range []struct {
		l []byte
		w uint64
	}{
		{nil, 0},
		{[]byte{}, 0},
		{[]byte{0}, 1},
		{[]byte{6}, 0x61},
		{[]byte{15}, 0xf1},
		{[]byte{0, 0}, 2},
		{[]byte{6, 1}, 0x162},
		{[]byte{1, 6}, 0x612},
		{[]byte{0, 1}, 0x102},
		{[]byte{1, 0}, 0x12},
		{[]byte{0, 0, 0}, 3},
		{[]byte{1, 2, 3, 4, 5, 6, 7, 8}, 0x876543218},
		{[]byte{1, 2, 3, 4, 5, 6, 7, 8, 9, 10, 11, 12, 13, 14}, 0xedcba987654321e},
		{[]byte{0, 0, 0, 0, 0, 0, 0, 0, 0, 0, 0, 0, 0, 0, 0}, 15},
		{[]byte{1, 0, 0, 0, 0, 0, 0, 0, 0, 0, 0, 0, 0, 0, 0}, 0x1f},
		{[]byte{0, 0, 0, 0, 0, 0, 0, 0, 0, 0, 0, 0, 0, 0, 1}, 0x100000000000000f},
		{[]byte{0, 0, 0, 0, 0, 0, 0, 0, 0, 0, 0, 0, 0, 0, 8}, 0x800000000000000f},
		{[]byte{1, 2, 3, 4, 5, 6, 7, 8, 9, 10, 11, 12, 13, 14, 15}, 0xfedcba987654321f},
		{[]byte{15, 15, 15, 15, 15, 15, 15, 15, 15, 15, 15, 15, 15, 15, 15}, math.MaxUint64},
	} {
		if w, ok := Pack(c.l); w != c.w || !ok {
			t.Errorf("Pack(%v): %#x, %v, not %#x", c.l, w, ok, c.w)
		}
		if l, ok := Unpack(c.w); !slices.Equal(l, c.l) || !ok {
			t.Errorf("Unpack(%#x): %v, %v, not %v", c.w, l, ok, c.l)
		}
	}
}

func TestEachPlaceOfAWord(t *testing.T) { // P8.3: lists of each length there is, with each number at each place
	for many := range 16 {
		for _, l := range [][]byte{sameNumbers(0, many), sameNumbers(15, many), risingNibbles(many)} {
			for at := range many {
				for n := range 256 {
					changed := with(l, at, byte(n))
					w, ok := Pack(changed)
					if by, is := packByHand(changed); w != by || ok != is || ok != (n < 16) {
						t.Fatalf("Pack(%v): %#x, %v, not %#x, %v", changed, w, ok, by, is)
					}
				}
			}
		}
	}
}

func TestTooManyForAWord(t *testing.T) { // P8.3, R3: of more than 15, among them lengths that wrap round to fewer
	for _, many := range []int{16, 17, 18, 30, 31, 32, 33, 63, 64, 65, 255, 256, 257, 258, 271, 272, 65536, 65537, 1 << 20} {
		for _, l := range [][]byte{sameNumbers(0, many), sameNumbers(15, many), sameNumbers(1, many), risingNibbles(many), sameNumbers(16, many), with(sameNumbers(0, many), many-1, 255)} {
			if w, ok := Pack(l); w != 0 || ok {
				t.Errorf("Pack of %d numbers: %#x, %v", many, w, ok)
			}
		}
	}
	if w, ok := Pack(risingNibbles(15)); w == 0 || !ok {
		t.Errorf("Pack of 15 nibbles: %#x, %v", w, ok)
	}
}

func TestSmallWords(t *testing.T) { // P8.3: each word of 20 bits
	for w := range uint64(1 << 20) {
		l, ok := Unpack(w)
		if by, is := unpackByHand(w); !slices.Equal(l, by) || ok != is {
			t.Fatalf("Unpack(%#x): %v, %v, not %v, %v", w, l, ok, by, is)
		}
	}
}

func TestBitsOfWords(t *testing.T) { // P8.3, R3: each bit there is, behind the nibbles or in them
	for many := range 16 {
		end := 4 + 4*many
		for _, full := range [][]byte{sameNumbers(0, many), sameNumbers(15, many), risingNibbles(many)} {
			word, _ := packByHand(full)
			for bit := 4; bit < 64; bit++ {
				w := word ^ 1<<bit
				l, ok := Unpack(w)
				if by, is := unpackByHand(w); !slices.Equal(l, by) || ok != is || ok != (bit < end) {
					t.Fatalf("Unpack(%#x): %v, %v, not %v, %v", w, l, ok, by, is)
				}
			}
		}
	}
	for many := range 15 {
		w := uint64(math.MaxUint64)<<(4+4*many) + uint64(many)
		if l, ok := Unpack(w); len(l) != 0 || ok {
			t.Errorf("Unpack(%#x): %v, %v", w, l, ok)
		}
	}
	for _, w := range []uint64{0x10, 0xf0, 0x101, 0x111, 0x1002, math.MaxUint64 - 1, math.MaxUint64 - 15, 1 << 63, 1<<63 + 14, 0x1000000000000001, 0x100000000000000e} {
		if l, ok := Unpack(w); len(l) != 0 || ok {
			t.Errorf("Unpack(%#x): %v, %v", w, l, ok)
		}
	}
}
