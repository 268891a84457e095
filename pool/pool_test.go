package pool

import (
	"math"
	"slices"
	"strconv"
	"testing"

	"stillroom/api"
	"stillroom/head"
	"stillroom/nvm"
)

// farPlaces are no blocks of any device: far off, of which some wrap round to places of blocks, as numbers of fewer bits, or less what stands ahead of the slabs.
var farPlaces = []int{
	math.MinInt, math.MinInt + 1, math.MinInt + 64, math.MinInt + 192, math.MinInt + 256, math.MinInt + 1216, math.MinInt + 191,
	-1 << 62, -1 << 58, -1<<32 + 192, -1 << 32, -1 << 31, -1<<31 + 192, -1 << 20, -65536, -65536 + 192, -1216, -1024, -832, -256, -192, -64, -8, -1,
	1 << 16, 1<<16 + 192, 1<<16 + 640, 1 << 20, 1<<31 - 1, 1 << 31, 1<<31 + 192, 1 << 32, 1<<32 + 192, 1<<32 + 640, 1 << 58, 1<<58 + 192, 1 << 62, 1<<62 + 192,
	math.MaxInt - 1023, math.MaxInt - 63, math.MaxInt - 191, math.MaxInt - 192, math.MaxInt - 1, math.MaxInt,
}

// wrongClasses are neither Small nor Big: those beside them, and those far off, of which some wrap round to them.
var wrongClasses = []int{
	math.MinInt, math.MinInt + 1, math.MinInt + 2, -1 << 62, -1<<32 + 1, -1 << 32, -1<<32 + 2, -256, -255, -254, -4, -3, -2, -1,
	0, 3, 4, 5, 8, 16, 17, 18, 64, 255, 256, 257, 258, 1<<16 + 1, 1<<16 + 2, 1 << 31, 1 << 32, 1<<32 + 1, 1<<32 + 2, 1 << 62, math.MaxInt - 1, math.MaxInt,
}

// wrongWords are no slab's: no class, a class without a block, both classes, a block that Big has not, bits beyond.
var wrongWords = []uint64{1, 0x8000, 0xffff, 0x10000, 0x20000, 0x30000, 0x30001, 0x3ffff, 0x20010, 0x2001f, 0x28001, 0x50001, 1 << 18, 1<<32 | 0x10001, 1<<63 | 0x20001, 1 << 63, math.MaxUint64}

// wrongPools: those that no call made.
func wrongPools() map[string]*Pool {
	return map[string]*Pool{"a nil pool": nil, "a zero pool": {}, "one that new made": new(Pool)}
}

// fresh: a device of so many lines that was formatted.
func fresh(t *testing.T, lines int) *nvm.Dev {
	t.Helper()
	d := nvm.New(lines)
	if _, e := head.Format(d); e != api.OK {
		t.Fatalf("Format of %d lines: error %d", lines, e)
	}
	return d
}

// opened: the pool of a device that opens.
func opened(t *testing.T, d *nvm.Dev) *Pool {
	t.Helper()
	p, e := Open(d)
	if p == nil || e != api.OK {
		t.Fatalf("Open: %v, error %d", p, e)
	}
	return p
}

// withWords: a device of so many lines with these words of its slabs, from the first one on.
func withWords(t *testing.T, lines int, l ...uint64) *nvm.Dev {
	t.Helper()
	d := fresh(t, lines)
	for i, w := range l {
		setWord(t, d, i, w)
	}
	return d
}

// setWord: a slab has another word on the device, that is durable.
func setWord(t *testing.T, d *nvm.Dev, number int, w uint64) {
	t.Helper()
	at := 128 + 8*number
	if e := max(d.Store(at, w), d.Flush(at), d.Fence()); e != api.OK {
		t.Fatalf("a Store at %d: error %d", at, e)
	}
}

// stateOf: all that a device tells without a step.
func stateOf(d *nvm.Dev) string {
	_, e := d.Load(0)
	l := []byte(strconv.Itoa(d.Steps()) + " " + strconv.Itoa(int(e)))
	for line := range d.Size() / 64 {
		l = append(l, " "+strconv.Itoa(d.May(line))...)
	}
	return string(append(l, d.Image()...))
}

// reserves: fails unless Reserve answers that.
func reserves(t *testing.T, p *Pool, class, right int, wrong api.Errno) {
	t.Helper()
	if off, e := p.Reserve(class); off != right || e != wrong {
		t.Fatalf("Reserve(%d): %d, error %d, not %d, %d", class, off, e, right, wrong)
	}
}

// reservesAll: fails unless Reserve answers these, one behind the other.
func reservesAll(t *testing.T, p *Pool, class int, right ...int) {
	t.Helper()
	for _, off := range right {
		reserves(t, p, class, off, api.OK)
	}
}

// takes: fails unless Take answers that.
func takes(t *testing.T, p *Pool, wrong api.Errno, places ...int) {
	t.Helper()
	for _, off := range places {
		if e := p.Take(off); e != wrong {
			t.Fatalf("Take(%d): error %d, not %d", off, e, wrong)
		}
	}
}

// drops: fails unless Drop answers that.
func drops(t *testing.T, p *Pool, wrong api.Errno, places ...int) {
	t.Helper()
	for _, off := range places {
		if e := p.Drop(off); e != wrong {
			t.Fatalf("Drop(%d): error %d, not %d", off, e, wrong)
		}
	}
}

// has: fails unless so many are reserved, and these taken.
func has(t *testing.T, p *Pool, held int, all ...int) {
	t.Helper()
	if p.Held() != held || !slices.Equal(p.All(), all) {
		t.Fatalf("%d are reserved, %v taken, not %d, %v", p.Held(), p.All(), held, all)
	}
}

// classes: fails unless these blocks have that class.
func classes(t *testing.T, p *Pool, class int, places ...int) {
	t.Helper()
	for _, off := range places {
		if c := p.Class(off); c != class {
			t.Fatalf("Class(%d): %d, not %d", off, c, class)
		}
	}
}

// words: fails unless the device has these words of slabs, as they are now.
func words(t *testing.T, d *nvm.Dev, l ...uint64) {
	t.Helper()
	b := d.Image()
	for i, w := range l {
		var n uint64
		for _, x := range slices.Backward(b[128+8*i:][:8]) {
			n = n<<8 | uint64(x)
		}
		if n != w {
			t.Fatalf("the slab %d has the word %x, not %x", i, n, w)
		}
	}
}

// every: places from one on, so far apart, so many.
func every(from, apart, many int) []int {
	var l []int
	for i := range many {
		l = append(l, from+i*apart)
	}
	return l
}

func TestOpen(t *testing.T) { // P7.1: of each number of lines: the shape, nothing reserved, nothing taken, and the device is left alone
	for lines := 19; lines <= 1024; lines++ {
		d := fresh(t, lines)
		before := stateOf(d)
		p := opened(t, d)
		right, _ := head.Of(lines)
		if p.Shape() != right {
			t.Errorf("%d lines: the shape is %v, not %v", lines, p.Shape(), right)
		}
		has(t, p, 0)
		if stateOf(d) != before {
			t.Errorf("%d lines: Open changed the device", lines)
		}
	}
}

func TestOpenByName(t *testing.T) { // P7.1, P7.5: devices of one slab, of two, of the most, with blocks
	p := opened(t, withWords(t, 19, 0x18003))
	if p.Shape() != (head.Shape{Lines: 19, Slabs: 1, Table: 128, Data: 192}) {
		t.Errorf("19 lines: %v", p.Shape())
	}
	has(t, p, 0, 192, 256, 1152)
	classes(t, p, 1, 192, 256, 1152)
	classes(t, p, 0, 320, 1088, 1216)

	p = opened(t, withWords(t, 35, 0x2000a, 0x10002))
	if p.Shape() != (head.Shape{Lines: 35, Slabs: 2, Table: 128, Data: 192}) {
		t.Errorf("35 lines: %v", p.Shape())
	}
	has(t, p, 0, 448, 960, 1280)
	classes(t, p, 2, 448, 960)
	classes(t, p, 1, 1280)
	classes(t, p, 0, 192, 512, 576, 640, 704, 1216, 1344)

	d := withWords(t, 1024, 0x10001)
	setWord(t, d, 8, 0x20001)
	setWord(t, d, 62, 0x20009)
	p = opened(t, d)
	if p.Shape() != (head.Shape{Lines: 1024, Slabs: 63, Table: 128, Data: 640}) {
		t.Errorf("1024 lines: %v", p.Shape())
	}
	has(t, p, 0, 640, 640+8*1024, 640+62*1024, 640+62*1024+768)
	classes(t, p, 1, 640)
	classes(t, p, 2, 640+8*1024, 640+62*1024, 640+62*1024+768)
}

func TestOpenIsWrong(t *testing.T) { // P7.1, R2, R3: what head.Open tells comes ahead of what the table tells
	refused := func(what string, d *nvm.Dev, wrong api.Errno) {
		t.Helper()
		before := stateOf(d)
		if p, e := Open(d); p != nil || e != wrong {
			t.Errorf("Open of %s: %v, error %d, not %d", what, p, e, wrong)
		}
		if stateOf(d) != before {
			t.Errorf("Open of %s changed it", what)
		}
	}
	for what, d := range map[string]*nvm.Dev{"a nil device": nil, "a zero device": {}, "one that new made": new(nvm.Dev), "no device of nvm.New": nvm.New(0), "no device of nvm.Of": nvm.Of(nil)} {
		refused(what, d, api.ErrNil)
	}
	for _, lines := range []int{1, 2, 3, 18, 19, 35, 148, 1024} {
		d := nvm.New(lines)
		refused("a new device", d, api.ErrCorrupt)
		d.Stop(0)
		refused("a new device that is down", d, api.ErrDown)
	}
	for _, lines := range []int{19, 35, 148, 1024} {
		d := fresh(t, lines)
		d.Stop(0)
		refused("a device that is down", d, api.ErrDown)
		d.Crash(nil)
		opened(t, d)
		setWord(t, d, 0, 1)
		d.Stop(0)
		refused("a device that is down, and has a wrong table", d, api.ErrDown)
		d.Crash(nil)
		d.Store(0, 0)
		refused("a device without its first word", d, api.ErrCorrupt)
	}
	// the device's own number of lines counts, not the one of its words
	refused("a part of a device", nvm.Of(fresh(t, 35).Image()[:19*64]), api.ErrCorrupt)
}

func TestOpenOfAWrongTable(t *testing.T) { // P7.1: each slab's word counts, durable or not, and no other word of the table's lines
	for _, lines := range []int{19, 20, 35, 130, 131, 147, 148, 300, 1024} {
		s, _ := head.Of(lines)
		d := fresh(t, lines)
		for number := range s.Slabs {
			for _, w := range wrongWords {
				d.Store(128+8*number, w)
				if p, e := Open(d); p != nil || e != api.ErrCorrupt {
					t.Fatalf("%d lines, the slab %d has the word %x: %v, error %d", lines, number, w, p, e)
				}
			}
			d.Crash(nil)
			opened(t, d)
		}
		for at := 128 + 8*s.Slabs; at < 64*lines; at += 8 {
			d.Store(at, math.MaxUint64)
		}
		d.Store(head.Slot, 1)
		d.Store(head.Root, math.MaxUint64)
		has(t, opened(t, d), 0)
	}
}

func TestOpenOfEachWord(t *testing.T) { // P7.1, P7.5: what a slab's word says is taken, be it durable or not
	d := fresh(t, 35)
	for _, number := range []int{0, 1} {
		data := 192 + 1024*number
		for set := range 1 << 16 {
			if set >= 16 && set%97 != 0 && set&(set-1) != 0 && set&(set+1) != 0 {
				continue
			}
			for class, size := range []int{0, 64, 256} {
				if class == 0 || class == 2 && set >= 16 || set == 0 {
					continue
				}
				d.Store(128+8*number, uint64(class<<16|set))
				var all []int
				for at := range 16 {
					if set>>at&1 == 1 {
						all = append(all, data+at*size)
					}
				}
				p := opened(t, d)
				has(t, p, 0, all...)
				classes(t, p, class, all...)
			}
		}
		d.Crash(nil)
	}
}

func TestNoPool(t *testing.T) { // R7, R2, R3: pools that no call made, whatever they are asked
	for what, p := range wrongPools() {
		if s := p.Shape(); s != (head.Shape{}) {
			t.Errorf("%s has the shape %v", what, s)
		}
		for _, class := range append([]int{1, 2}, wrongClasses...) {
			if off, e := p.Reserve(class); off != 0 || e != api.ErrNil {
				t.Errorf("%s, Reserve(%d): %d, error %d", what, class, off, e)
			}
		}
		for _, off := range append([]int{0, 1, 64, 72, 128, 192, 193, 256, 448, 640, 1216}, farPlaces...) {
			if e := p.Take(off); e != api.ErrNil {
				t.Errorf("%s, Take(%d): error %d", what, off, e)
			}
			if e := p.Drop(off); e != api.ErrNil {
				t.Errorf("%s, Drop(%d): error %d", what, off, e)
			}
			if c := p.Class(off); c != 0 {
				t.Errorf("%s, Class(%d): %d", what, off, c)
			}
		}
		if l := p.All(); len(l) != 0 {
			t.Errorf("%s, All: %v", what, l)
		}
		if n := p.Held(); n != 0 {
			t.Errorf("%s, Held: %d", what, n)
		}
	}
}

func TestReserveOfOneSlab(t *testing.T) { // P7.2: by name, on 19 lines
	p := opened(t, fresh(t, 19))
	reserves(t, p, 1, 192, api.OK)
	reserves(t, p, 2, 0, api.ErrFull)
	reservesAll(t, p, 1, every(256, 64, 15)...)
	reserves(t, p, 1, 0, api.ErrFull)
	reserves(t, p, 2, 0, api.ErrFull)
	has(t, p, 16)

	p = opened(t, fresh(t, 19))
	reservesAll(t, p, 2, 192, 448, 704, 960)
	reserves(t, p, 2, 0, api.ErrFull)
	reserves(t, p, 1, 0, api.ErrFull)
	has(t, p, 4)
}

func TestReserveOfTwoSlabs(t *testing.T) { // P7.2: by name, on 35 lines: each class has a slab of its own
	p := opened(t, fresh(t, 35))
	reserves(t, p, 1, 192, api.OK)
	reserves(t, p, 2, 1216, api.OK)
	reserves(t, p, 1, 256, api.OK)
	reservesAll(t, p, 2, 1472, 1728, 1984)
	reserves(t, p, 2, 0, api.ErrFull)
	reserves(t, p, 1, 320, api.OK)
	reservesAll(t, p, 1, every(384, 64, 13)...)
	reserves(t, p, 1, 0, api.ErrFull)
	has(t, p, 20)

	// the other way round
	p = opened(t, fresh(t, 35))
	reserves(t, p, 2, 192, api.OK)
	reserves(t, p, 1, 1216, api.OK)
	reserves(t, p, 2, 448, api.OK)

	// a slab that is full, and the next one free
	p = opened(t, fresh(t, 35))
	reservesAll(t, p, 1, every(192, 64, 32)...)
	reserves(t, p, 1, 0, api.ErrFull)
	reserves(t, p, 2, 0, api.ErrFull)
	p = opened(t, fresh(t, 35))
	reservesAll(t, p, 2, every(192, 256, 8)...)
	reserves(t, p, 2, 0, api.ErrFull)
	reserves(t, p, 1, 0, api.ErrFull)
}

func TestReserveIsWrong(t *testing.T) { // P7.2, R2, R3, R5: of what is no class, be there room, or none
	full := withWords(t, 19, 0x1ffff)
	for what, d := range map[string]*nvm.Dev{"a new one": fresh(t, 19), "a full one": full, "the most lines": fresh(t, 1024)} {
		p := opened(t, d)
		before := stateOf(d)
		for _, class := range wrongClasses {
			reserves(t, p, class, 0, api.ErrArg)
		}
		if p.Held() != 0 || stateOf(d) != before {
			t.Errorf("%s: %d are reserved, or the device is another one", what, p.Held())
		}
	}
}

func TestReserveOfTheFirstSlab(t *testing.T) { // P7.2: by number, of those with blocks of that class and room; what is taken and what is reserved counts alike
	d := withWords(t, 19+4*16, 0, 0x2000f, 0x10007, 0x2000d, 0x18000)
	p := opened(t, d)
	before := stateOf(d)
	reserves(t, p, 1, 192+2*1024+3*64, api.OK) // not the empty slab 0, and not the slab 4
	reserves(t, p, 2, 192+3*1024+256, api.OK)  // the slab 1 is full
	reservesAll(t, p, 2, 192)                  // the slab 3 is so now as well: the first one that is empty
	reservesAll(t, p, 1, every(192+2*1024+4*64, 64, 12)...)
	reservesAll(t, p, 1, every(192+4*1024, 64, 15)...)
	reserves(t, p, 1, 0, api.ErrFull) // though there is room for Big
	reservesAll(t, p, 2, 448, 704, 960)
	reserves(t, p, 2, 0, api.ErrFull)
	if stateOf(d) != before {
		t.Error("Reserve changed the device")
	}
}

func TestReserveAnEarlierOne(t *testing.T) { // P7.2: a slab that gets room again comes ahead of a later one
	p := opened(t, fresh(t, 51))
	reservesAll(t, p, 1, every(192, 64, 32)...)
	reserves(t, p, 1, 192+2*1024, api.OK)
	drops(t, p, api.OK, 192+1024+5*64, 192+3*64, 192+7*64, 192+1024+64)
	reservesAll(t, p, 1, 192+3*64, 192+7*64, 192+1024+64, 192+1024+5*64, 192+2*1024+64)
	reserves(t, p, 2, 0, api.ErrFull)
	drops(t, p, api.OK, every(192+1024, 64, 16)...) // the slab 1 is empty: a later one with blocks comes ahead of it ..
	reserves(t, p, 1, 192+2*1024+2*64, api.OK)
	reserves(t, p, 2, 192+1024, api.OK) // .. and it may have the other class
	reserves(t, p, 2, 192+1024+256, api.OK)
	drops(t, p, api.OK, 192+1024, 192+1024+256)
	drops(t, p, api.OK, 192+2*1024+64)
	reservesAll(t, p, 1, 192+2*1024+64, 192+2*1024+3*64)
	has(t, p, 16+4)
}

func TestReserveOfEmptyOnes(t *testing.T) { // P7.2: the first slab of which nothing is taken or reserved, wherever it lies
	d := withWords(t, 19+4*16, 0x10001, 0, 0x20001, 0, 0)
	p := opened(t, d)
	reservesAll(t, p, 1, every(256, 64, 15)...)
	reserves(t, p, 1, 192+1024, api.OK)
	reservesAll(t, p, 2, every(192+2*1024+256, 256, 3)...)
	reserves(t, p, 2, 192+3*1024, api.OK)
	drops(t, p, api.OK, 192+1024)
	drops(t, p, api.OK, 192+3*1024)
	reserves(t, p, 2, 192+1024, api.OK)
	reserves(t, p, 1, 192+3*1024, api.OK)
	drops(t, p, api.OK, 192) // its other blocks are reserved
	reserves(t, p, 1, 192, api.OK)
	words(t, d, 0, 0, 0x20001, 0, 0)
}

func TestFull(t *testing.T) { // P7.2: with all blocks reserved, with all taken, and with some of both
	for class, size := range []int{0, 64, 256} {
		if class == 0 {
			continue
		}
		for _, lines := range []int{19, 35, 148, 1024} {
			s, _ := head.Of(lines)
			for which := range 3 {
				p := opened(t, fresh(t, lines))
				all := every(s.Data, size, 1024/size*s.Slabs)
				held := 0
				for i, off := range all {
					reserves(t, p, class, off, api.OK)
					if which == 1 || which == 2 && i%3 == 0 {
						takes(t, p, api.OK, off)
					} else {
						held++
					}
				}
				reserves(t, p, class, 0, api.ErrFull)
				reserves(t, p, 3-class, 0, api.ErrFull)
				reserves(t, p, 0, 0, api.ErrArg)
				if p.Held() != held || len(p.All()) != len(all)-held {
					t.Errorf("%d lines: %d are reserved, %d taken", lines, p.Held(), len(p.All()))
				}
				drops(t, p, api.OK, all[len(all)/2])
				reserves(t, p, 3-class, 0, api.ErrFull)
				reserves(t, p, class, all[len(all)/2], api.OK)
			}
		}
	}
}

func TestTake(t *testing.T) { // P7.3: by name: the table's words, the steps, what is told then
	d := fresh(t, 35)
	p := opened(t, d)
	reservesAll(t, p, 1, 192, 256, 320)
	reservesAll(t, p, 2, 1216, 1472)
	steps := d.Steps()
	takes(t, p, api.OK, 320)
	words(t, d, 0x10004, 0)
	if d.Steps() != steps+3 || d.May(2) != 1 {
		t.Errorf("%d steps, %d contents", d.Steps()-steps, d.May(2))
	}
	has(t, p, 4, 320)
	takes(t, p, api.OK, 1472, 192)
	words(t, d, 0x10005, 0x20002)
	has(t, p, 2, 192, 320, 1472)
	classes(t, p, 1, 192, 320)
	classes(t, p, 2, 1472)
	classes(t, p, 0, 256, 1216)
	takes(t, p, api.ErrNone, 192, 320, 1472) // twice
	takes(t, p, api.ErrNone, 384, 1728)      // free ones
	takes(t, p, api.OK, 256, 1216)
	words(t, d, 0x10007, 0x20003)
	has(t, p, 0, 192, 256, 320, 1216, 1472)
	if d.Steps() != steps+15 {
		t.Errorf("%d steps", d.Steps()-steps)
	}
}

func TestTakeOfWhatIsNone(t *testing.T) { // P7.3, P7.4, P7.5, R5: places that are no block, or are in the midst of one, or of one that is neither
	d := withWords(t, 51, 0x10002, 0x20004)
	p := opened(t, d)
	reservesAll(t, p, 1, 192, 320)
	reservesAll(t, p, 2, 1216)
	before := stateOf(d)
	known := []int{192, 256, 320, 1216, 1728}
	places := slices.Clone(farPlaces)
	for off := -300; off < 51*64+2000; off++ {
		places = append(places, off)
	}
	for _, off := range places {
		if slices.Contains(known, off) {
			continue
		}
		takes(t, p, api.ErrNone, off)
		drops(t, p, api.ErrNone, off)
		classes(t, p, 0, off)
	}
	takes(t, p, api.ErrNone, 256, 1728) // these are taken
	classes(t, p, 0, 192, 320, 1216)    // these are but reserved
	classes(t, p, 1, 256)
	classes(t, p, 2, 1728)
	has(t, p, 3, 256, 1728)
	if stateOf(d) != before {
		t.Error("what is ErrNone changed the device")
	}
}

func TestDrop(t *testing.T) { // P7.4: by name: of what is reserved without a step, of what is taken with three
	d := fresh(t, 35)
	p := opened(t, d)
	reservesAll(t, p, 1, 192, 256, 320)
	steps := d.Steps()
	drops(t, p, api.OK, 256)
	drops(t, p, api.ErrNone, 256) // twice
	takes(t, p, api.ErrNone, 256)
	has(t, p, 2)
	if d.Steps() != steps {
		t.Errorf("%d steps", d.Steps()-steps)
	}
	takes(t, p, api.OK, 192, 320)
	words(t, d, 0x10005, 0)
	steps = d.Steps()
	drops(t, p, api.OK, 192)
	words(t, d, 0x10004, 0)
	if d.Steps() != steps+3 || d.May(2) != 1 {
		t.Errorf("%d steps, %d contents", d.Steps()-steps, d.May(2))
	}
	drops(t, p, api.ErrNone, 192, 256, 384, 1216)
	has(t, p, 0, 320)
	classes(t, p, 0, 192)
	drops(t, p, api.OK, 320)
	words(t, d, 0, 0)
	has(t, p, 0)
	reserves(t, p, 2, 192, api.OK) // the slab is free for either class
	takes(t, p, api.OK, 192)
	words(t, d, 0x20001, 0)
	drops(t, p, api.OK, 192)
	words(t, d, 0, 0)
}

func TestDropOfTheLastTaken(t *testing.T) { // P7.4, P7.2: what is reserved keeps the slab's class, though its word is 0
	d := fresh(t, 19)
	p := opened(t, d)
	reservesAll(t, p, 1, 192, 256)
	takes(t, p, api.OK, 192)
	drops(t, p, api.OK, 192)
	words(t, d, 0)
	reserves(t, p, 2, 0, api.ErrFull)
	reserves(t, p, 1, 192, api.OK)
	takes(t, p, api.OK, 256)
	words(t, d, 0x10002)
	drops(t, p, api.OK, 192)
	reserves(t, p, 2, 0, api.ErrFull) // .. and so does what is taken
	drops(t, p, api.OK, 256)
	reserves(t, p, 2, 192, api.OK)
	reserves(t, p, 1, 0, api.ErrFull)
	takes(t, p, api.ErrNone, 256) // a place of the class before
	drops(t, p, api.ErrNone, 256)
}

func TestAllIsNewMemory(t *testing.T) { // R6: writing over an answer changes nothing
	p := opened(t, withWords(t, 35, 0x10003, 0x20001))
	right := []int{192, 256, 1216}
	for range 3 {
		l := p.All()
		if !slices.Equal(l, right) {
			t.Fatalf("All: %v", l)
		}
		other := p.All()
		for i := range l[:cap(l)] {
			l[:cap(l)][i] = -7
		}
		if !slices.Equal(other, right) {
			t.Fatalf("another answer of All: %v", other)
		}
		has(t, p, 0, right...)
		classes(t, p, 1, 192, 256)
		reserves(t, p, 1, 320, api.OK)
		drops(t, p, api.OK, 320)
	}
}

func TestPoolsApart(t *testing.T) { // R4: what one pool has reserved no other one knows, nor what it has taken since
	d, other := fresh(t, 19), fresh(t, 19)
	p, q, r := opened(t, d), opened(t, d), opened(t, other)
	reservesAll(t, p, 1, 192, 256)
	takes(t, p, api.OK, 256)
	takes(t, q, api.ErrNone, 192, 256)
	has(t, q, 0)
	has(t, r, 0)
	reserves(t, q, 2, 192, api.OK)
	reserves(t, r, 2, 192, api.OK)
	has(t, p, 1, 256)
	has(t, opened(t, d), 0, 256)
	has(t, opened(t, other), 0)
	words(t, other, 0)
}
