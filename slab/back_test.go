package slab

import (
	"slices"
	"strconv"
	"testing"
)

// ordersOf: some orders of so many blocks: from each one on, rising, falling and by leaps, that are odd and so meet each block once.
func ordersOf(many int) [][]int {
	var l [][]int
	for first := range many {
		for leap := 1; leap < many; leap += 2 {
			var order []int
			for i := range many {
				order = append(order, (first+i*leap)%many)
			}
			l = append(l, order)
		}
	}
	return l
}

// full: all blocks of a class, taken one by one by Next and Take.
func full(t *testing.T, class int) uint64 {
	t.Helper()
	var w uint64
	for i := range blocksOf(class) {
		at := Next(w, class)
		x, ok := Take(w, class, at)
		if at != i || !ok || !Right(x) || Class(x) != class || !Has(x, i) || Has(w, i) || len(List(x)) != i+1 {
			t.Fatalf("class %d, the block %d: Next %d, Take %#x, %v, of %#x", class, i, at, x, ok, w)
		}
		w = x
	}
	if at := Next(w, class); at != -1 {
		t.Fatalf("class %d, all are taken: Next %d", class, at)
	}
	for at := -1; at <= blocksOf(class); at++ {
		if x, ok := Take(w, class, at); x != w || ok {
			t.Fatalf("class %d, all are taken: Take of %d: %#x, %v", class, at, x, ok)
		}
	}
	return w
}

func TestOneByOne(t *testing.T) { // P6.4, P6.5: all are taken, and dropped in several orders
	for _, class := range []int{Small, Big} {
		for _, order := range ordersOf(blocksOf(class)) {
			w := full(t, class)
			for i, at := range order {
				x, ok := Drop(w, at)
				if !ok || !Right(x) || Has(x, at) || len(List(x)) != len(order)-i-1 {
					t.Fatalf("class %d, in the order %v: Drop(%#x, %d): %#x, %v", class, order, w, at, x, ok)
				}
				if again, ok := Drop(x, at); again != x || ok {
					t.Fatalf("class %d, in the order %v: Drop of %d twice: %#x, %v", class, order, at, again, ok)
				}
				lowest := slices.Min(order[:i+1])
				if next := Next(x, class); next != lowest {
					t.Fatalf("class %d, in the order %v: Next(%#x): %d, not %d", class, order, x, next, lowest)
				}
				w = x
			}
			if w != 0 {
				t.Fatalf("class %d, in the order %v: all dropped: %#x", class, order, w)
			}
		}
	}
}

func TestTakenInOrders(t *testing.T) { // P6.5, P6.6: in whatever order blocks are taken, the words are the same, and dropped the other way round they come back
	for _, class := range []int{Small, Big} {
		all := full(t, class)
		for _, order := range ordersOf(blocksOf(class)) {
			words := []uint64{0}
			for _, at := range order {
				x, ok := Take(words[len(words)-1], class, at)
				if !ok {
					t.Fatalf("class %d, in the order %v: Take(%#x, .., %d)", class, order, words[len(words)-1], at)
				}
				words = append(words, x)
			}
			if last := words[len(order)]; last != all {
				t.Fatalf("class %d, in the order %v: all taken: %#x, not %#x", class, order, last, all)
			}
			for i := len(order) - 1; i >= 0; i-- {
				if x, ok := Drop(words[i+1], order[i]); x != words[i] || !ok {
					t.Fatalf("class %d, in the order %v: Drop(%#x, %d): %#x, %v", class, order, words[i+1], order[i], x, ok)
				}
			}
		}
	}
}

func TestFreeAgain(t *testing.T) { // P6.5: a slab of which the last block was dropped is free for either class
	for _, class := range []int{Small, Big} {
		for at := range blocksOf(class) {
			w, _ := Take(0, class, at)
			if x, ok := Take(w, Small+Big-class, 0); x != w || ok {
				t.Errorf("class %d, the block %d: the other class: %#x, %v", class, at, x, ok)
			}
			w, _ = Drop(w, at)
			for _, other := range []int{Small, Big} {
				if next := Next(w, other); next != 0 {
					t.Errorf("class %d, the block %d, dropped: Next of class %d: %d", class, at, other, next)
				}
				if x, ok := Take(w, other, 2); !ok || x != slabOf(other, 4).word() {
					t.Errorf("class %d, the block %d, dropped: class %d: %#x, %v", class, at, other, x, ok)
				}
			}
		}
	}
}

func TestBack(t *testing.T) { // P6.6: of each word that is right
	for _, s := range allSlabs() {
		w := s.word()
		for _, class := range []int{Small, Big} {
			for at := range blocksOf(class) {
				x, ok := Take(w, class, at)
				if !ok {
					continue
				}
				if back, is := Drop(x, at); back != w || !is || !Right(x) {
					t.Fatalf("Take(%#x, %d, %d): %#x, and dropped %#x, %v", w, class, at, x, back, is)
				}
			}
		}
		for _, at := range s.taken {
			x, ok := Drop(w, at)
			if back, is := Take(x, s.class, at); back != w || !ok || !is || !Right(x) {
				t.Fatalf("Drop(%#x, %d): %#x, %v, and taken %#x, %v", w, at, x, ok, back, is)
			}
		}
	}
}

// wordsToTell: some that are right, and some that are not.
func wordsToTell() []uint64 {
	l := []uint64{1, 0x10000, 0x20000, 0x20010, 0x30001, 1<<18 + 0x10001, 1<<63 + 0x20001, 1<<64 - 1}
	for _, s := range someSlabs() {
		l = append(l, s.word())
	}
	return l
}

// told: all that is answered of a word.
func told(w uint64) string {
	text := strconv.FormatBool(Right(w)) + " " + strconv.Itoa(Class(w))
	for _, at := range List(w) {
		text += " " + strconv.Itoa(at)
	}
	for class := range 4 {
		text += "; " + strconv.Itoa(Next(w, class)) + " " + strconv.Itoa(Blocks(class)) + " " + strconv.Itoa(Lines(class))
		for at := range 17 {
			x, ok := Take(w, class, at)
			y, is := Drop(w, at)
			text += " " + strconv.FormatUint(x, 16) + strconv.FormatBool(ok) + strconv.FormatUint(y, 16) + strconv.FormatBool(is) + strconv.FormatBool(Has(w, at))
		}
	}
	return text
}

func TestNothingIsKept(t *testing.T) { // R4: whatever was asked ahead, the answers are the same
	words := wordsToTell()
	var first []string
	for _, w := range words {
		first = append(first, told(w))
	}
	for i := len(words) - 1; i >= 0; i-- {
		if again := told(words[i]); again != first[i] {
			t.Errorf("%#x: told %s, and then %s", words[i], first[i], again)
		}
	}
}

func TestWhatIsHandedInStays(t *testing.T) { // R6
	for _, was := range wordsToTell() {
		for _, class := range []int{None, Small, Big, 3} {
			for _, at := range nearBlocks() {
				w, c, a := was, class, at
				Right(w)
				Class(w)
				Has(w, a)
				List(w)
				Next(w, c)
				Take(w, c, a)
				Drop(w, a)
				if w != was || c != class || a != at {
					t.Fatalf("%#x, class %d, block %d are %#x, %d, %d", was, class, at, w, c, a)
				}
			}
		}
	}
}

func TestListIsNewMemory(t *testing.T) { // R6: also in its room
	for _, s := range someSlabs() {
		w := s.word()
		one, other := List(w), List(w)
		for i := range one[:cap(one)] {
			one[:cap(one)][i] = -7
		}
		if !slices.Equal(other, s.taken) {
			t.Errorf("List(%#x): written over the one, the other is %v", w, other)
		}
		if l := List(w); !slices.Equal(l, s.taken) {
			t.Errorf("List(%#x): written over one, the next one is %v", w, l)
		}
	}
}
