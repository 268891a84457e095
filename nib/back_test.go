package nib

import (
	"slices"
	"strconv"
	"testing"
)

func TestKeysComeBack(t *testing.T) { // P8.4: keys from their nibbles, and nibbles from their keys
	for _, key := range someKeys() {
		l := Of(key)
		if len(l) != 2*len(key) || noneAt(l) >= 0 {
			t.Fatalf("Of(%q): %v", key, l)
		}
		if back, ok := Key(l); back != key || !ok {
			t.Fatalf("%q: back %q, %v", key, back, ok)
		}
	}
	for _, l := range append(listsOf(risingNibbles(16), 4), listsOf([]byte{0, 1, 15}, 8)...) {
		key, ok := Key(l)
		if ok != (len(l)%2 == 0) {
			t.Fatalf("Key(%v): %v", l, ok)
		}
		if back := Of(key); ok && !slices.Equal(back, l) {
			t.Fatalf("%v: back %v", l, back)
		}
	}
}

func TestWordsComeBack(t *testing.T) { // P8.4: nibbles from their words, and words from their nibbles; no two lists have one word
	met := map[uint64]string{}
	lists := append(listsOf(risingNibbles(16), 4), listsOf([]byte{0, 15}, 15)...)
	for many := range 16 {
		lists = append(lists, risingNibbles(many), sameNumbers(8, many))
	}
	for _, l := range lists {
		w, ok := Pack(l)
		if !ok {
			t.Fatalf("Pack(%v): false", l)
		}
		if back, ok := Unpack(w); !slices.Equal(back, l) || !ok {
			t.Fatalf("%v: the word %#x, back %v, %v", l, w, back, ok)
		}
		if other, is := met[w]; is && other != string(l) {
			t.Fatalf("%v and %v: both the word %#x", l, []byte(other), w)
		}
		met[w] = string(l)
	}
	for w := range uint64(1 << 18) {
		for _, w := range []uint64{w, w<<46 | 15, w * 0x9e3779b97f4a7c15} {
			l, ok := Unpack(w)
			if back, is := Pack(l); ok && (back != w || !is) {
				t.Fatalf("%#x: the nibbles %v, back %#x, %v", w, l, back, is)
			}
		}
	}
}

func TestKeysStandAsTheirNibbles(t *testing.T) { // P8.4, P8.2: each of two against the other
	for _, a := range someKeys() {
		for _, b := range someKeys() {
			l, m := Of(a), Of(b)
			if less := Less(l, m); less != (a < b) {
				t.Fatalf("%q and %q: Less of their nibbles %v", a, b, less)
			}
			whole := 0
			for whole < min(len(a), len(b)) && a[whole] == b[whole] {
				whole++
			}
			if n := Common(l, m); n/2 != whole {
				t.Fatalf("%q and %q: Common of their nibbles %d, of their bytes %d", a, b, n, whole)
			}
		}
	}
}

func TestSortedByNibbles(t *testing.T) { // P8.4: keys that are sorted by their nibbles rise
	var lists [][]byte
	for _, key := range someKeys() {
		lists = append(lists, Of(key))
	}
	slices.SortFunc(lists, func(a, b []byte) int {
		switch {
		case Less(a, b):
			return -1
		case Less(b, a):
			return 1
		}
		return 0
	})
	keys := slices.Sorted(slices.Values(someKeys()))
	for i, l := range lists {
		if key, ok := Key(l); key != keys[i] || !ok {
			t.Fatalf("number %d: %q, %v, not %q", i, key, ok, keys[i])
		}
	}
}

// listsToTell: of nibbles, with others, of an odd length, and of too many.
func listsToTell() [][]byte {
	l := [][]byte{nil, {}, {0}, {15}, {16}, {255}, {0, 0}, {6, 1}, {1, 6}, {6, 16}, {255, 1}, {6, 1, 6}, {6, 1, 16}, {6, 1, 6, 2}, {128, 6, 1, 6}, sameNumbers(16, 15), sameNumbers(255, 40)}
	for _, many := range []int{14, 15, 16, 17, 40, 300} {
		l = append(l, risingNibbles(many), sameNumbers(0, many), sameNumbers(15, many))
	}
	return l
}

// wordsToTell: some that have nibbles, and some that have none.
func wordsToTell() []uint64 {
	l := []uint64{0, 1, 2, 15, 16, 0x10, 0x61, 0x162, 0x1062, 0x10062, 1 << 63, 1<<63 + 14, 1<<63 + 15, 1<<64 - 1, 1<<64 - 2}
	for many := range 16 {
		w, _ := packByHand(risingNibbles(many))
		l = append(l, w)
	}
	return l
}

// toldOfList: all that is answered of a list, and of it and each other one.
func toldOfList(l []byte, others [][]byte) string {
	key, ok := Key(l)
	w, is := Pack(l)
	text := strconv.Quote(key) + strconv.FormatBool(ok) + " " + strconv.FormatUint(w, 16) + strconv.FormatBool(is)
	for _, other := range others {
		text += " " + strconv.Itoa(Common(l, other)) + strconv.FormatBool(Less(l, other)) + strconv.FormatBool(Less(other, l))
	}
	return text
}

// toldOfKey: the nibbles of a key.
func toldOfKey(key string) string {
	return strconv.Quote(string(Of(key)))
}

// toldOfWord: the nibbles of a word.
func toldOfWord(w uint64) string {
	l, ok := Unpack(w)
	return strconv.Quote(string(l)) + strconv.FormatBool(ok)
}

// toldAgain: fails if one of the things is told otherwise, once all others were asked, in the other order.
func toldAgain[T any](t *testing.T, all []T, tell func(T) string) {
	t.Helper()
	var first []string
	for _, one := range all {
		first = append(first, tell(one))
	}
	for i, one := range slices.Backward(all) {
		if again := tell(one); again != first[i] {
			t.Errorf("%v: told %s, and then %s", one, first[i], again)
		}
	}
}

func TestNothingIsKept(t *testing.T) { // R4: whatever was asked ahead, the answers are the same
	lists := listsToTell()
	toldAgain(t, lists, func(l []byte) string { return toldOfList(l, lists) })
	toldAgain(t, someKeys(), toldOfKey)
	toldAgain(t, wordsToTell(), toldOfWord)
}

func TestRoomIsNotAsked(t *testing.T) { // R4: neither the room of a list nor what stands in it is told
	lists := listsToTell()
	for _, l := range lists {
		for _, beyond := range []byte{0, 5, 15, 16, 255} {
			roomy := append(slices.Clone(l), sameNumbers(beyond, 50)...)[:len(l)]
			if one, other := toldOfList(l, lists), toldOfList(roomy, lists); one != other {
				t.Errorf("%v: told %s, with room of %d told %s", l, one, beyond, other)
			}
		}
	}
}

func TestWhatIsHandedInStays(t *testing.T) { // R6: also in its room
	for _, was := range listsToTell() {
		for _, other := range listsToTell() {
			a := append(slices.Clone(was), 3, 4, 250)
			b := append(slices.Clone(other), 5, 6, 251)
			Key(a[:len(was)])
			Pack(a[:len(was)])
			Common(a[:len(was)], b[:len(other)])
			Less(a[:len(was)], b[:len(other)])
			if !slices.Equal(a, append(slices.Clone(was), 3, 4, 250)) || !slices.Equal(b, append(slices.Clone(other), 5, 6, 251)) {
				t.Fatalf("%v and %v are %v and %v", was, other, a, b)
			}
		}
	}
}

func TestPartsOfOneList(t *testing.T) { // P8.2, R6: lists that share their memory are told as others are
	numbers := []byte{1, 2, 1, 2, 1, 16, 1, 2, 1, 255}
	for from := range numbers {
		for at := range numbers {
			a, b := numbers[from:], numbers[at:]
			if n, less := Common(a, b), Less(a, b); n != commonByHand(a, b) || less != lessByHand(a, b) {
				t.Errorf("%v and %v: Common %d, Less %v", a, b, n, less)
			}
		}
	}
	if !slices.Equal(numbers, []byte{1, 2, 1, 2, 1, 16, 1, 2, 1, 255}) {
		t.Errorf("the list is %v", numbers)
	}
}

func TestKeyIsNewMemory(t *testing.T) { // R6: a key stays as it is when the list that it came from is written over
	for _, key := range someKeys() {
		l := nibblesByHand(key)
		back, ok := Key(l)
		for i := range l {
			l[i] = 9
		}
		if back != key || !ok {
			t.Fatalf("%q: written over the list the key is %q, %v", key, back, ok)
		}
	}
}

// newMemory: fails unless two answers of one call, and the next ones, stay as they should be when one is written over, with its room.
func newMemory(t *testing.T, what string, by []byte, call func() []byte) {
	t.Helper()
	one, other := call(), call()
	room := one[:cap(one)]
	for i := range room {
		room[i] = 200
	}
	if !slices.Equal(other, by) {
		t.Fatalf("%s: written over one, the other is %v, not %v", what, other, by)
	}
	if next := call(); !slices.Equal(next, by) {
		t.Fatalf("%s: written over one, the next one is %v, not %v", what, next, by)
	}
}

func TestListsAreNewMemory(t *testing.T) { // R6
	for _, key := range someKeys() {
		newMemory(t, "Of("+strconv.Quote(key)+")", nibblesByHand(key), func() []byte { return Of(key) })
	}
	for _, w := range wordsToTell() {
		by, _ := unpackByHand(w)
		newMemory(t, "Unpack("+strconv.FormatUint(w, 16)+")", by, func() []byte {
			l, _ := Unpack(w)
			return l
		})
	}
}
