package slab

import (
	"math"
	"slices"
	"testing"
)

// farNumbers are no class and no block: below 0, and far off, of which some wrap round as bits or bytes to those that are.
var farNumbers = []int{
	math.MinInt, math.MinInt + 1, math.MinInt + 2, -1 << 62, -1<<32 + 1, -1 << 32, -1 << 31, -65536, -65535, -255, -254, -129, -128, -127, -65, -64, -63, -62, -18, -17, -16, -15, -14, -5, -4, -3, -2, -1,
	17, 18, 31, 32, 33, 34, 47, 48, 62, 63, 64, 65, 66, 80, 127, 128, 129, 130, 255, 256, 257, 258, 1 << 16, 1<<16 + 1, 1<<16 + 2, 1<<31 - 1, 1 << 31, 1 << 32, 1<<32 + 1, 1<<32 + 2, 1 << 62, math.MaxInt - 2, math.MaxInt - 1, math.MaxInt,
}

// blocksOf: how many blocks a class has, as numbers.
func blocksOf(class int) int {
	return []int{0, 16, 4}[class]
}

// nearClasses: those that there are, and those beside them.
func nearClasses() []int {
	return []int{-2, -1, 0, 1, 2, 3, 4}
}

// nearBlocks: those that there are, and those beside them, as far as the bits of the class and the ones behind.
func nearBlocks() []int {
	l := []int{-1}
	for at := range 20 {
		l = append(l, at)
	}
	return l
}

// slabByHand is a slab as the chapter's words tell it: the blocks that are taken are a list that rises.
type slabByHand struct {
	class int
	taken []int
}

// word: the blocks' bits are added up, each of them but once.
func (s slabByHand) word() uint64 {
	w := uint64(s.class) * 65536
	for _, at := range s.taken {
		bit := uint64(1)
		for range at {
			bit += bit
		}
		w += bit
	}
	return w
}

// suits: may it have blocks of a class?
func (s slabByHand) suits(class int) bool {
	return (class == 1 || class == 2) && (s.class == 0 || s.class == class)
}

// next says P6.4.
func (s slabByHand) next(class int) int {
	if !s.suits(class) {
		return -1
	}
	for at := range blocksOf(class) {
		if !slices.Contains(s.taken, at) {
			return at
		}
	}
	return -1
}

// take says P6.5.
func (s slabByHand) take(class, at int) (slabByHand, bool) {
	if !s.suits(class) || at < 0 || at >= blocksOf(class) || slices.Contains(s.taken, at) {
		return s, false
	}
	taken := append([]int{at}, s.taken...)
	slices.Sort(taken)
	return slabByHand{class, taken}, true
}

// drop says P6.5.
func (s slabByHand) drop(at int) (slabByHand, bool) {
	var left []int
	for _, one := range s.taken {
		if one != at {
			left = append(left, one)
		}
	}
	if len(left) == 0 && len(s.taken) == 1 {
		return slabByHand{}, true
	}
	return slabByHand{s.class, left}, len(left) < len(s.taken)
}

// slabOf: with the blocks that a number's bits say, the block 0 by the lowest one.
func slabOf(class, set int) slabByHand {
	s := slabByHand{class: class}
	for at := 0; set > 0; at++ {
		if set%2 == 1 {
			s.taken = append(s.taken, at)
		}
		set /= 2
	}
	return s
}

// allSlabs: all that there are, and the one without blocks first.
func allSlabs() []slabByHand {
	l := []slabByHand{{}}
	for _, class := range []int{1, 2} {
		for set := 1; set < 1<<blocksOf(class); set++ {
			l = append(l, slabOf(class, set))
		}
	}
	return l
}

// someSlabs: the one without blocks, and of each class with one block, with all, with all but one, and some others.
func someSlabs() []slabByHand {
	l := []slabByHand{{}}
	for _, class := range []int{1, 2} {
		all := 1<<blocksOf(class) - 1
		l = append(l, slabOf(class, all), slabOf(class, all&0x5555), slabOf(class, all&0xaaaa), slabOf(class, all&0x7ffe), slabOf(class, all&0xfff3))
		for at := range blocksOf(class) {
			l = append(l, slabOf(class, 1<<at), slabOf(class, all-1<<at))
		}
	}
	return l
}

// wrongWords: words that may not be, by what is wrong with them.
func wrongWords() map[string][]uint64 {
	l := map[string][]uint64{
		"a class without a block":        {0x10000, 0x20000},
		"blocks without a class":         {1, 2, 3, 8, 15, 16, 0x8000, 0x7fff, 0xffff},
		"both bits of the class":         {0x30000, 0x30001, 0x30008, 0x3000f, 0x30010, 0x38000, 0x3ffff},
		"a block that Big has not":       {0x20010, 0x20020, 0x20100, 0x28000, 0x20011, 0x2001f, 0x2000f + 0x10, 0x2000f + 0x8000, 0x2fff0, 0x2ffff},
		"higher bits alone":              {1 << 18, 1 << 19, 1 << 31, 1 << 32, 1 << 62, 1 << 63, 3 << 18, math.MaxUint64 &^ 0x3ffff},
		"all bits":                       {math.MaxUint64, math.MaxUint64 - 1, math.MaxUint64 >> 1, math.MaxUint32},
		"the class in other places":      {1<<24 + 1, 1<<15 + 1, 1<<14 + 1, 1<<32 + 1, 1<<48 + 1, 1<<62 + 1, 1<<63 + 1},
		"a right word moved up by bytes": {0x10001 << 8, 0x10001 << 16, 0x10001 << 32, 0x20001 << 16, 0x2000f << 32, 0x1ffff << 46},
	}
	for _, s := range someSlabs() {
		for bit := 18; bit < 64; bit++ {
			l["a higher bit"] = append(l["a higher bit"], s.word()+1<<bit)
		}
		for bit := 18; bit < 63; bit++ {
			l["two higher bits"] = append(l["two higher bits"], s.word()+3<<bit)
		}
		l["all higher bits"] = append(l["all higher bits"], s.word()|math.MaxUint64-0x3ffff)
	}
	return l
}

// answersAs: fails unless all calls answer of a slab's word what the chapter says, at these classes and blocks.
func answersAs(t *testing.T, s slabByHand, classes, blocks []int) {
	t.Helper()
	w := s.word()
	if !Right(w) {
		t.Fatalf("Right(%#x): false", w)
	}
	if class := Class(w); class != s.class {
		t.Fatalf("Class(%#x): %d, not %d", w, class, s.class)
	}
	if l := List(w); !slices.Equal(l, s.taken) {
		t.Fatalf("List(%#x): %v, not %v", w, l, s.taken)
	}
	for _, class := range classes {
		if at := Next(w, class); at != s.next(class) {
			t.Fatalf("Next(%#x, %d): %d, not %d", w, class, at, s.next(class))
		}
	}
	for _, at := range blocks {
		if has := Has(w, at); has != slices.Contains(s.taken, at) {
			t.Fatalf("Has(%#x, %d): %v", w, at, has)
		}
		left, was := s.drop(at)
		if x, ok := Drop(w, at); x != left.word() || ok != was {
			t.Fatalf("Drop(%#x, %d): %#x, %v, not %#x, %v", w, at, x, ok, left.word(), was)
		}
		for _, class := range classes {
			more, could := s.take(class, at)
			if x, ok := Take(w, class, at); x != more.word() || ok != could {
				t.Fatalf("Take(%#x, %d, %d): %#x, %v, not %#x, %v", w, class, at, x, ok, more.word(), could)
			}
		}
	}
}

// answersNothing: fails unless all calls answer nothing of a word that may not be, and leave it as it is.
func answersNothing(t *testing.T, w uint64, classes, blocks []int) {
	t.Helper()
	if Right(w) {
		t.Fatalf("Right(%#x): true", w)
	}
	if class, l := Class(w), List(w); class != 0 || len(l) != 0 {
		t.Fatalf("%#x: Class %d, List %v", w, class, l)
	}
	for _, class := range classes {
		if at := Next(w, class); at != -1 {
			t.Fatalf("Next(%#x, %d): %d", w, class, at)
		}
	}
	for _, at := range blocks {
		if Has(w, at) {
			t.Fatalf("Has(%#x, %d): true", w, at)
		}
		if x, ok := Drop(w, at); x != w || ok {
			t.Fatalf("Drop(%#x, %d): %#x, %v", w, at, x, ok)
		}
		for _, class := range classes {
			if x, ok := Take(w, class, at); x != w || ok {
				t.Fatalf("Take(%#x, %d, %d): %#x, %v", w, class, at, x, ok)
			}
		}
	}
}

func TestClasses(t *testing.T) { // the classes, as numbers
	if None != 0 || Small != 1 || Big != 2 {
		t.Errorf("None %d, Small %d, Big %d", None, Small, Big)
	}
}

func TestBlocksAndLines(t *testing.T) { // P6.1
	for _, c := range []struct{ class, blocks, lines int }{{None, 0, 0}, {Small, 16, 1}, {Big, 4, 4}} {
		if b, l := Blocks(c.class), Lines(c.class); b != c.blocks || l != c.lines {
			t.Errorf("class %d: %d blocks of %d lines", c.class, b, l)
		}
	}
	for _, class := range append([]int{3, 4, 5, 6, 8, 15, 16}, farNumbers...) {
		if b, l := Blocks(class), Lines(class); b != 0 || l != 0 {
			t.Errorf("class %d: %d blocks of %d lines", class, b, l)
		}
	}
}

func TestRightByName(t *testing.T) { // P6.2: the edges, as numbers
	for _, w := range []uint64{0, 0x10001, 0x10002, 0x18000, 0x1ffff, 0x1fffe, 0x17fff, 0x20001, 0x20002, 0x20004, 0x20008, 0x2000f, 0x2000e, 0x20007} {
		if !Right(w) {
			t.Errorf("Right(%#x): false", w)
		}
	}
	for what, l := range wrongWords() {
		for _, w := range l {
			if Right(w) {
				t.Errorf("Right(%#x), %s: true", w, what)
			}
		}
	}
}

func TestTellByName(t *testing.T) { // P6.3, P6.4: some words, as numbers
	for _, c := range []struct {
		w          uint64
		class      int
		list       []int
		small, big int // what Next answers
	}{
		{0, None, nil, 0, 0},
		{0x10001, Small, []int{0}, 1, -1},
		{0x18000, Small, []int{15}, 0, -1},
		{0x1000b, Small, []int{0, 1, 3}, 2, -1},
		{0x17fff, Small, []int{0, 1, 2, 3, 4, 5, 6, 7, 8, 9, 10, 11, 12, 13, 14}, 15, -1},
		{0x1ffff, Small, []int{0, 1, 2, 3, 4, 5, 6, 7, 8, 9, 10, 11, 12, 13, 14, 15}, -1, -1},
		{0x20002, Big, []int{1}, -1, 0},
		{0x20007, Big, []int{0, 1, 2}, -1, 3},
		{0x2000d, Big, []int{0, 2, 3}, -1, 1},
		{0x2000f, Big, []int{0, 1, 2, 3}, -1, -1},
	} {
		if class, l := Class(c.w), List(c.w); class != c.class || !slices.Equal(l, c.list) {
			t.Errorf("%#x: Class %d, List %v", c.w, class, l)
		}
		if s, b := Next(c.w, Small), Next(c.w, Big); s != c.small || b != c.big {
			t.Errorf("%#x: Next of Small %d, of Big %d", c.w, s, b)
		}
	}
}

func TestHasByName(t *testing.T) { // P6.3: the edges, as numbers; the bits of the class are no blocks
	for _, c := range []struct {
		w   uint64
		at  int
		has bool
	}{
		{0, 0, false}, {0, 16, false},
		{0x10001, 0, true}, {0x10001, 1, false}, {0x10001, -1, false}, {0x10001, 64, false},
		{0x18000, 15, true}, {0x18000, 14, false}, {0x18000, 16, false}, {0x18000, -1, false}, {0x18000, 63, false},
		{0x1ffff, 15, true}, {0x1ffff, 16, false}, {0x1ffff, math.MinInt, false}, {0x1ffff, math.MaxInt, false},
		{0x2000f, 3, true}, {0x2000f, 4, false}, {0x2000f, 17, false}, {0x2000f, -1, false}, {0x2000f, 64, false},
		{0x20010, 4, false}, {0x10000, 16, false}, {1, 0, false}, {0x30001, 0, false}, {math.MaxUint64, 0, false}, {math.MaxUint64, 63, false},
	} {
		if has := Has(c.w, c.at); has != c.has {
			t.Errorf("Has(%#x, %d): %v", c.w, c.at, has)
		}
	}
}

func TestTakeByName(t *testing.T) { // P6.5: the edges, as numbers
	for _, c := range []struct {
		w         uint64
		class, at int
		x         uint64
		ok        bool
	}{
		{0, Big, 1, 0x20002, true},
		{0, Small, 0, 0x10001, true},
		{0, Small, 15, 0x18000, true},
		{0, Big, 3, 0x20008, true},
		{0x10001, Small, 1, 0x10003, true},
		{0x17fff, Small, 15, 0x1ffff, true},
		{0x20007, Big, 3, 0x2000f, true},
		{0, None, 0, 0, false},
		{0, 3, 0, 0, false},
		{0, -1, 0, 0, false},
		{0, Small, 16, 0, false},
		{0, Big, 4, 0, false},
		{0, Small, -1, 0, false},
		{0, Big, -1, 0, false},
		{0x10001, Small, 0, 0x10001, false},
		{0x10001, Big, 1, 0x10001, false},
		{0x20002, Small, 0, 0x20002, false},
		{0x20002, Big, 1, 0x20002, false},
		{0x20002, Big, 4, 0x20002, false},
		{0x1ffff, Small, 16, 0x1ffff, false},
		{0x2000f, Big, 17, 0x2000f, false},
		{1, Small, 1, 1, false},
		{0x10000, Small, 0, 0x10000, false},
		{0x20010, Big, 0, 0x20010, false},
		{0x30001, Small, 1, 0x30001, false},
		{1<<63 + 0x10001, Small, 1, 1<<63 + 0x10001, false},
	} {
		if x, ok := Take(c.w, c.class, c.at); x != c.x || ok != c.ok {
			t.Errorf("Take(%#x, %d, %d): %#x, %v", c.w, c.class, c.at, x, ok)
		}
	}
}

func TestDropByName(t *testing.T) { // P6.5: the edges, as numbers
	for _, c := range []struct {
		w  uint64
		at int
		x  uint64
		ok bool
	}{
		{0x10001, 0, 0, true},
		{0x18000, 15, 0, true},
		{0x20008, 3, 0, true},
		{0x10003, 0, 0x10002, true},
		{0x1ffff, 15, 0x17fff, true},
		{0x2000f, 1, 0x2000d, true},
		{0, 0, 0, false},
		{0, -1, 0, false},
		{0x10001, 1, 0x10001, false},
		{0x10001, -1, 0x10001, false},
		{0x10001, 16, 0x10001, false},
		{0x1ffff, 16, 0x1ffff, false},
		{0x20002, 0, 0x20002, false},
		{0x20002, 17, 0x20002, false},
		{0x2000f, 4, 0x2000f, false},
		{0x2000f, 64, 0x2000f, false},
		{1, 0, 1, false},
		{0x10000, 16, 0x10000, false},
		{0x20010, 4, 0x20010, false},
		{0x30001, 0, 0x30001, false},
		{1<<63 + 0x10001, 0, 1<<63 + 0x10001, false},
		{1<<63 + 0x10001, 63, 1<<63 + 0x10001, false},
	} {
		if x, ok := Drop(c.w, c.at); x != c.x || ok != c.ok {
			t.Errorf("Drop(%#x, %d): %#x, %v", c.w, c.at, x, ok)
		}
	}
}

func TestFarNumbers(t *testing.T) { // P6.3, P6.4, P6.5, R1: some words, at classes and blocks far off
	classes := slices.Concat(nearClasses(), farNumbers)
	blocks := slices.Concat(nearBlocks(), farNumbers)
	for _, s := range someSlabs() {
		answersAs(t, s, classes, blocks)
	}
	for _, l := range wrongWords() {
		for _, w := range l[:min(len(l), 20)] {
			answersNothing(t, w, classes, blocks)
		}
	}
}

func TestWrongWords(t *testing.T) { // P6.2 to P6.5: of words that may not be nothing is told
	for _, l := range wrongWords() {
		for _, w := range l {
			answersNothing(t, w, nearClasses(), append(nearBlocks(), 31, 32, 62, 63, 64))
		}
	}
}

func TestAllWords(t *testing.T) { // P6.2 to P6.5: each word of 18 bits
	right := map[uint64]int{}
	for i, s := range allSlabs() {
		right[s.word()] = i + 1
		answersAs(t, s, []int{None, Small, Big, 3}, nearBlocks())
	}
	if len(right) != 1+65535+15 {
		t.Fatalf("%d words are right", len(right))
	}
	for w := range uint64(1 << 18) {
		if right[w] == 0 {
			answersNothing(t, w, []int{None, Small, Big, 3}, nearBlocks())
		}
	}
}
