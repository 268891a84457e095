package sure

import (
	"bytes"
	"encoding/binary"
	"math"
	"slices"
	"testing"

	"stillroom/api"
	"stillroom/nvm"
)

// farPlaces are those that wrap round, or are cut short, when something comes to them.
var farPlaces = []int{math.MinInt, math.MinInt + 8, math.MinInt + 64, -1 << 32, -1 << 16, -1 << 10, 1 << 16, 1<<16 + 8, 1 << 31, 1 << 32, 1<<32 + 64, 1 << 58, 1 << 61, 1 << 62, math.MaxInt - 63, math.MaxInt - 7, math.MaxInt - 1, math.MaxInt}

// farCounts are numbers of words that, as bytes, wrap round to few of them, or to none, and those that are below 0.
var farCounts = []int{math.MinInt, math.MinInt + 1, -1 << 61, -1 << 32, -8192, -64, -8, -2, -1, 8193, 1 << 16, 1 << 29, 1<<29 + 1, 1 << 32, 1 << 60, 1 << 61, 1<<61 + 1, 1<<61 + 8, 1 << 62, 1<<62 + 1, math.MaxInt - 1, math.MaxInt}

// manyPicks are what crashes in these tests are handed: none, the same of all lines, some of each.
var manyPicks = [][]uint8{nil, {0, 0, 0}, {1, 1, 1}, {2, 2, 2}, {3, 3, 3}, {7, 7, 7}, {8, 8, 8}, {255, 255, 255}, {1, 0, 2}, {0, 2, 1}, {5, 4, 3}, {0, 0, 1}, {1}, {9, 5, 250}}

// pattern: bytes of which no two neighbours, and no two words, are alike.
func pattern(many int) []byte {
	b := make([]byte, many)
	for i := range b {
		b[i] = byte(i*37 + i/64*11 + 5)
	}
	return b
}

// numbered: so many words, no two of them alike, with room behind them that is no part of them.
func numbered(many int) []uint64 {
	l := make([]uint64, many+3)
	for i := range l {
		l[i] = 0x8102030405060700 + uint64(i)
	}
	return l[:many]
}

// places: all about a device of a size, and those far off.
func places(size int) []int {
	l := slices.Clone(farPlaces)
	for off := -72; off <= size+72; off++ {
		l = append(l, off)
	}
	return l
}

// fits: have so many words room at a place of so many bytes? A list of the places that have says it.
func fits(size, off, many int) bool {
	for right := 0; right <= size; right += 8 {
		if off == right {
			return many >= 0 && many <= (size-right)/8
		}
	}
	return false
}

// with: bytes with other words at a place.
func with(image []byte, off int, l []uint64) []byte {
	out := slices.Clone(image)
	for i, n := range l {
		binary.LittleEndian.PutUint64(out[off+8*i:], n)
	}
	return out
}

// words: so many at a place of some bytes.
func words(image []byte, off, many int) []uint64 {
	l := []uint64{}
	for i := range many {
		l = append(l, binary.LittleEndian.Uint64(image[off+8*i:]))
	}
	return l
}

// want: fails unless an answer is that error.
func want(t *testing.T, what string, got, right api.Errno) {
	t.Helper()
	if got != right {
		t.Errorf("%s: error %d, not %d", what, got, right)
	}
}

// is: fails unless a device has these bytes now, and did so many steps.
func is(t *testing.T, what string, d *nvm.Dev, image []byte, steps int) {
	t.Helper()
	if !bytes.Equal(d.Image(), image) {
		t.Errorf("%s: the bytes are %x, not %x", what, d.Image(), image)
	}
	if d.Steps() != steps {
		t.Errorf("%s: %d steps, not %d", what, d.Steps(), steps)
	}
}

// may: fails unless the lines from 0 on have so many contents.
func may(t *testing.T, what string, d *nvm.Dev, right ...int) {
	t.Helper()
	for line, many := range right {
		if d.May(line) != many {
			t.Errorf("%s: line %d has %d contents, not %d", what, line, d.May(line), many)
		}
	}
}

// allSure: fails unless each line has one content.
func allSure(t *testing.T, what string, d *nvm.Dev) {
	t.Helper()
	for line := range d.Size() / 64 {
		if d.May(line) != 1 {
			t.Errorf("%s: line %d has %d contents", what, line, d.May(line))
		}
	}
}

// got: fails unless Get answers that error, and these words.
func got(t *testing.T, what string, d *nvm.Dev, off, many int, right []uint64, wrong api.Errno) {
	t.Helper()
	l, e := Get(d, off, many)
	if e != wrong || !slices.Equal(l, right) || e != api.OK && l != nil {
		t.Errorf("%s: Get of %d words at %d: %x, %d, not %x, %d", what, many, off, l, e, right, wrong)
	}
}

// down: a device that is down, of some bytes.
func down(image []byte) *nvm.Dev {
	d := nvm.Of(image)
	d.Stop(0)
	return d
}

// noDevices: those that no call made.
func noDevices() map[string]*nvm.Dev {
	return map[string]*nvm.Dev{"a nil device": nil, "a zero device": {}, "one that new made": new(nvm.Dev), "no device of nvm.New": nvm.New(0), "no device of nvm.Of": nvm.Of(nil)}
}

func TestNoDevice(t *testing.T) { // P4.1 to P4.4, R7: ErrNil, wherever it is asked, but for what Clear names ahead of it
	for what, d := range noDevices() {
		for _, off := range places(64) {
			want(t, what+": Put", Put(d, off, 5), api.ErrNil)
			for _, many := range []int{0, 1, 8, 9} {
				want(t, what+": PutAll", PutAll(d, off, numbered(many)), api.ErrNil)
				got(t, what, d, off, many, nil, api.ErrNil)
			}
			want(t, what+": PutAll of nil", PutAll(d, off, nil), api.ErrNil)
			for _, many := range farCounts {
				got(t, what, d, off, many, nil, api.ErrNil)
			}
			for _, lines := range []int{0, 1, 2, 1023, 1024} {
				right := api.ErrNil
				if off%64 != 0 {
					right = api.ErrArg
				}
				want(t, what+": Clear", Clear(d, off, lines), right)
			}
			for _, lines := range []int{math.MinInt, -1, 1025, math.MaxInt} {
				want(t, what+": Clear of too few or too many", Clear(d, off, lines), api.ErrArg)
			}
		}
		if d.Steps() != 0 || d.Size() != 0 {
			t.Errorf("%s: %d steps, size %d", what, d.Steps(), d.Size())
		}
	}
}

func TestPut(t *testing.T) { // P4.1: one word and no other, in three steps; or none at all
	const n = 0x8102030405060799
	for _, size := range []int{64, 128, 192} {
		for _, off := range places(size) {
			d := nvm.Of(pattern(size))
			e := Put(d, off, n)
			if !fits(size, off, 1) {
				want(t, "a Put outside", e, api.ErrOut)
				is(t, "a Put outside", d, pattern(size), 0)
			} else {
				want(t, "a Put", e, api.OK)
				is(t, "a Put", d, with(pattern(size), off, []uint64{n}), 3)
			}
			allSure(t, "a Put", d)
		}
	}
}

func TestPutOfTheWordThatIsThere(t *testing.T) { // P4.1, P4.5: it is three steps as well, and durable behind them
	d := nvm.New(1)
	want(t, "Put of 0", Put(d, 8, 0), api.OK)
	is(t, "Put of 0", d, make([]byte, 64), 3)
	for pick := range uint8(4) {
		d := nvm.New(1)
		want(t, "Store", d.Store(8, 5), api.OK)
		may(t, "a Store alone", d, 2)
		want(t, "Put", Put(d, 8, 5), api.OK)
		may(t, "a Put of the same word", d, 1)
		is(t, "a Put of the same word", d, with(make([]byte, 64), 8, []uint64{5}), 4)
		d.Crash([]uint8{pick})
		is(t, "behind a crash", d, with(make([]byte, 64), 8, []uint64{5}), 4)
	}
}

func TestPutLeavesOtherLines(t *testing.T) { // P4.1: what was not flushed stays so; what was flushed is durable by the Fence
	d := nvm.New(4)
	for line := range 4 {
		want(t, "Store", d.Store(64*line, 5), api.OK)
	}
	want(t, "Flush", d.Flush(64), api.OK)
	want(t, "Store", d.Store(64, 6), api.OK)
	want(t, "Put", Put(d, 184, 7), api.OK)
	may(t, "behind the Put", d, 2, 2, 1, 2)
	d.Crash(nil)
	right := with(with(make([]byte, 256), 64, []uint64{5}), 128, []uint64{5})
	is(t, "behind a crash", d, with(right, 184, []uint64{7}), 9)
}

func TestPutOnADeviceThatIsDown(t *testing.T) { // P4.1: the Store tells it, wherever
	for _, off := range places(128) {
		d := down(pattern(128))
		want(t, "Put", Put(d, off, 5), api.ErrDown)
		is(t, "a Put that was none", d, pattern(128), 0)
		allSure(t, "a Put that was none", d)
	}
}

func TestPutGoesDown(t *testing.T) { // P4.1: at each step of it; what a crash leaves then
	was, put := make([]byte, 128), with(make([]byte, 128), 72, []uint64{5})
	for _, c := range []struct {
		after    int
		e        api.Errno
		now      []byte
		steps    int
		contents int
		left     [][]byte // by picks of 0, 1 and 2
		down     bool
	}{
		{-1, api.ErrDown, was, 0, 1, [][]byte{was, was, was}, true},
		{0, api.ErrDown, was, 0, 1, [][]byte{was, was, was}, true},
		{1, api.ErrDown, put, 1, 2, [][]byte{was, put, was}, true},
		{2, api.ErrDown, put, 2, 2, [][]byte{was, put, was}, true},
		{3, api.OK, put, 3, 1, [][]byte{put, put, put}, true},
		{4, api.OK, put, 3, 1, [][]byte{put, put, put}, false},
	} {
		for pick, left := range c.left {
			d := nvm.New(2)
			d.Stop(c.after)
			want(t, "Put", Put(d, 72, 5), c.e)
			is(t, "behind the Put", d, c.now, c.steps)
			may(t, "behind the Put", d, 1, c.contents)
			if _, e := d.Load(0); c.down != (e == api.ErrDown) {
				t.Errorf("Stop(%d) ahead of a Put: error %d", c.after, e)
			}
			d.Crash([]uint8{uint8(pick)})
			is(t, "behind the crash", d, left, c.steps)
			want(t, "a Put behind the crash", Put(d, 0, 9), api.OK)
		}
	}
}

func TestPutAll(t *testing.T) { // P4.2: these words and no others, a step each, one for each line and one more; or none at all
	for _, size := range []int{64, 128, 192} {
		for _, off := range places(size) {
			for _, many := range []int{0, 1, 2, 7, 8, 9, 15, 16, 17, 23, 24, 25, 8192, 8193} {
				d := nvm.Of(pattern(size))
				e := PutAll(d, off, numbered(many))
				if !fits(size, off, many) {
					want(t, "a PutAll outside", e, api.ErrOut)
					is(t, "a PutAll outside", d, pattern(size), 0)
				} else {
					want(t, "a PutAll", e, api.OK)
					is(t, "a PutAll", d, with(pattern(size), off, numbered(many)), many+linesOf(off, many)+1)
				}
				allSure(t, "a PutAll", d)
			}
		}
	}
}

// linesOf: how many lines have one of so many words at a place.
func linesOf(off, many int) int {
	lines := map[int]bool{}
	for i := range many {
		lines[(off+8*i)/64] = true
	}
	return len(lines)
}

func TestPutAllOfTheGreatestDevice(t *testing.T) { // P4.2: as many as fit, and one more
	d := nvm.New(1024)
	want(t, "all words", PutAll(d, 0, numbered(8192)), api.OK)
	is(t, "all words", d, with(make([]byte, 65536), 0, numbered(8192)), 8192+1024+1)
	allSure(t, "all words", d)
	want(t, "one more", PutAll(d, 0, numbered(8193)), api.ErrOut)
	want(t, "all of them, from the second word on", PutAll(d, 8, numbered(8192)), api.ErrOut)
	want(t, "all but one", PutAll(d, 8, numbered(8191)), api.OK)
	is(t, "all but one", d, with(with(make([]byte, 65536), 0, numbered(1)), 8, numbered(8191)), 8192+1024+1+8191+1024+1)
}

func TestPutAllOfNoWords(t *testing.T) { // P4.2: the Fence alone, wherever there is a place, the one at the device's end with it
	for _, l := range [][]uint64{nil, {}, numbered(3)[:0]} {
		for _, off := range places(128) {
			d := nvm.New(2)
			want(t, "Store", d.Store(0, 5), api.OK)
			want(t, "Flush", d.Flush(0), api.OK)
			want(t, "Store", d.Store(64, 5), api.OK)
			e := PutAll(d, off, l)
			if off < 0 || off > 128 || off%8 != 0 {
				want(t, "no words outside", e, api.ErrOut)
				may(t, "no words outside", d, 2, 2)
				is(t, "no words outside", d, d.Image(), 3)
				continue
			}
			want(t, "no words", e, api.OK)
			may(t, "no words", d, 1, 2)
			is(t, "no words", d, with(with(make([]byte, 128), 0, []uint64{5}), 64, []uint64{5}), 4)
		}
	}
	for _, off := range []int{0, 8, 64, 120, 128} {
		want(t, "no words on one that is down", PutAll(down(pattern(128)), off, nil), api.ErrDown)
	}
}

func TestPutAllLeavesOtherLines(t *testing.T) { // P4.2: those that have none of the words are not flushed
	for _, c := range []struct {
		off, many int
		contents  []int
	}{
		{64, 8, []int{2, 1, 2, 2}},
		{64, 9, []int{2, 1, 1, 2}},
		{64, 1, []int{2, 1, 2, 2}},
		{120, 1, []int{2, 1, 2, 2}},
		{120, 2, []int{2, 1, 1, 2}},
		{56, 1, []int{1, 2, 2, 2}},
		{56, 9, []int{1, 1, 2, 2}},
		{56, 10, []int{1, 1, 1, 2}},
		{248, 1, []int{2, 2, 2, 1}},
		{256, 0, []int{2, 2, 2, 2}},
		{8, 0, []int{2, 2, 2, 2}},
		{0, 32, []int{1, 1, 1, 1}},
	} {
		d := nvm.New(4)
		for line := range 4 {
			want(t, "Store", d.Store(64*line, 5), api.OK)
		}
		want(t, "PutAll", PutAll(d, c.off, numbered(c.many)), api.OK)
		may(t, "behind the PutAll", d, c.contents...)
	}
}

func TestPutAllOnADeviceThatIsDown(t *testing.T) { // P4.2: what is outside is told ahead of that
	for _, off := range places(128) {
		for _, many := range []int{0, 1, 8, 16, 17} {
			d, right := down(pattern(128)), api.ErrDown
			if !fits(128, off, many) {
				right = api.ErrOut
			}
			want(t, "PutAll", PutAll(d, off, numbered(many)), right)
			is(t, "a PutAll that was none", d, pattern(128), 0)
			allSure(t, "a PutAll that was none", d)
		}
	}
}

func TestPutAllGoesDown(t *testing.T) { // P4.2: words first, in order, then the lines, then the Fence
	l := numbered(10) // two in line 0, eight in line 1: 10 and 2 and 1
	for after := range 16 {
		d := nvm.Of(pattern(192))
		d.Stop(after)
		e := PutAll(d, 48, l)
		stored := min(after, 10)
		is(t, "behind the PutAll", d, with(pattern(192), 48, l[:stored]), min(after, 13))
		if after < 13 {
			want(t, "PutAll", e, api.ErrDown)
			may(t, "behind the PutAll", d, 1+min(stored, 2), 1+max(stored-2, 0), 1)
		} else {
			want(t, "PutAll", e, api.OK)
			may(t, "behind the PutAll", d, 1, 1, 1)
		}
		_, e = d.Load(0)
		if after <= 13 {
			want(t, "Load behind the last step", e, api.ErrDown)
		} else {
			want(t, "Load", e, api.OK)
		}
	}
}

func TestWhatACrashLeavesOfAPutAll(t *testing.T) { // P4.2: of each line the words up to one of them, by its own pick; all, if it was done
	l := numbered(10)
	for after := range 15 {
		for first := range 3 {
			for second := range 9 {
				d := nvm.Of(pattern(192))
				d.Stop(after)
				PutAll(d, 48, l)
				stored, right := min(after, 10), with(pattern(192), 48, l)
				if after < 13 {
					low, high := min(stored, 2), max(stored-2, 0)
					right = with(pattern(192), 48, l[:first%(low+1)])
					right = with(right, 64, l[2:2+second%(high+1)])
				}
				picks := []uint8{uint8(first), uint8(second)}
				if d.May(0) == 1 {
					picks = picks[1:]
				}
				d.Crash(picks)
				is(t, "behind the crash", d, right, min(after, 13))
			}
		}
	}
}

func TestGet(t *testing.T) { // P4.3: so many words, or nothing; no step
	for _, size := range []int{64, 128, 192} {
		image := pattern(size)
		d := nvm.Of(image)
		for _, off := range places(size) {
			counts := slices.Clone(farCounts)
			for many := -9; many <= size/8+2; many++ {
				counts = append(counts, many)
			}
			for _, many := range counts {
				if fits(size, off, many) {
					got(t, "inside", d, off, many, words(image, off, many), api.OK)
				} else {
					got(t, "outside", d, off, many, nil, api.ErrOut)
				}
			}
		}
		is(t, "behind all Gets", d, image, 0)
		allSure(t, "behind all Gets", d)
	}
}

func TestGetOfTheGreatestDevice(t *testing.T) { // P4.3
	image := pattern(65536)
	d := nvm.Of(image)
	got(t, "all words", d, 0, 8192, words(image, 0, 8192), api.OK)
	got(t, "one more", d, 0, 8193, nil, api.ErrOut)
	got(t, "the last word", d, 65528, 1, words(image, 65528, 1), api.OK)
	got(t, "no word at the end", d, 65536, 0, nil, api.OK)
	got(t, "a word at the end", d, 65536, 1, nil, api.ErrOut)
	got(t, "no word beyond", d, 65544, 0, nil, api.ErrOut)
	for _, many := range farCounts {
		got(t, "far too many, or too few", d, 0, many, nil, api.ErrOut)
		got(t, "far too many, or too few, at the end", d, 65536, many, nil, api.ErrOut)
	}
}

func TestGetTellsWhatIsThereNow(t *testing.T) { // P4.3: durable or not
	d := nvm.New(2)
	want(t, "Store", d.Store(56, 5), api.OK)
	want(t, "Store", d.Store(64, 6), api.OK)
	got(t, "stored alone", d, 48, 4, []uint64{0, 5, 6, 0}, api.OK)
	want(t, "Flush", d.Flush(56), api.OK)
	want(t, "Fence", d.Fence(), api.OK)
	got(t, "one line flushed and fenced", d, 48, 4, []uint64{0, 5, 6, 0}, api.OK)
	is(t, "behind Gets", d, with(make([]byte, 128), 56, []uint64{5, 6}), 4)
	may(t, "behind Gets", d, 1, 2)
	d.Crash(nil)
	got(t, "behind a crash", d, 48, 4, []uint64{0, 5, 0, 0}, api.OK)
}

func TestGetOnADeviceThatIsDown(t *testing.T) { // P4.3: the first Load tells it: of no words there is none
	d := down(pattern(128))
	for _, off := range places(128) {
		for _, many := range []int{-8, -1, 0, 1, 2, 8, 16, 17} {
			switch {
			case !fits(128, off, many):
				got(t, "outside", d, off, many, nil, api.ErrOut)
			case many == 0:
				got(t, "no words", d, off, many, nil, api.OK)
			default:
				got(t, "down", d, off, many, nil, api.ErrDown)
			}
		}
	}
	d.Crash(nil)
	got(t, "up again", d, 0, 16, words(pattern(128), 0, 16), api.OK)
}

func TestClear(t *testing.T) { // P4.4: whole lines of 0, and no others; or nothing at all
	for _, size := range []int{64, 128, 192} {
		for _, off := range places(size) {
			for _, lines := range []int{math.MinInt, -1 << 58, -64, -2, -1, 0, 1, 2, 3, 4, 5, 8, 64, 1023, 1024, 1025, 1 << 16, 1 << 58, 1 << 60, 1 << 61, math.MaxInt} {
				d := nvm.Of(pattern(size))
				e := Clear(d, off, lines)
				switch {
				case lines < 0 || lines > 1024 || off%64 != 0:
					want(t, "Clear, what may not be", e, api.ErrArg)
					is(t, "Clear, what may not be", d, pattern(size), 0)
				case !fits(size, off, 8*lines):
					want(t, "Clear outside", e, api.ErrOut)
					is(t, "Clear outside", d, pattern(size), 0)
				default:
					want(t, "Clear", e, api.OK)
					is(t, "Clear", d, with(pattern(size), off, make([]uint64, 8*lines)), 9*lines+1)
				}
				allSure(t, "Clear", d)
			}
		}
	}
}

func TestClearByName(t *testing.T) { // P4.4: the edges, one by one
	for _, c := range []struct {
		d          *nvm.Dev
		off, lines int
		e          api.Errno
	}{
		{nvm.New(3), 0, 0, api.OK},
		{nvm.New(3), 0, 1, api.OK},
		{nvm.New(3), 0, 3, api.OK},
		{nvm.New(3), 0, 4, api.ErrOut},
		{nvm.New(3), 0, 1024, api.ErrOut},
		{nvm.New(3), 0, 1025, api.ErrArg},
		{nvm.New(3), 0, -1, api.ErrArg},
		{nvm.New(3), 64, 2, api.OK},
		{nvm.New(3), 64, 3, api.ErrOut},
		{nvm.New(3), 128, 1, api.OK},
		{nvm.New(3), 192, 0, api.OK},
		{nvm.New(3), 192, 1, api.ErrOut},
		{nvm.New(3), 256, 0, api.ErrOut},
		{nvm.New(3), -64, 0, api.ErrOut},
		{nvm.New(3), -64, 1, api.ErrOut},
		{nvm.New(3), -128, 2, api.ErrOut},
		{nvm.New(3), math.MinInt, 1, api.ErrOut},
		{nvm.New(3), -8, 0, api.ErrArg},
		{nvm.New(3), -8, 1, api.ErrArg},
		{nvm.New(3), 8, 0, api.ErrArg},
		{nvm.New(3), 8, 1, api.ErrArg},
		{nvm.New(3), 1, 1, api.ErrArg},
		{nvm.New(3), 63, 1, api.ErrArg},
		{nvm.New(3), 72, 1, api.ErrArg},
		{nvm.New(3), math.MaxInt, 1, api.ErrArg},
		{nvm.New(1024), 0, 1024, api.OK},
		{nvm.New(1024), 0, 1025, api.ErrArg},
		{nvm.New(1024), 64, 1023, api.OK},
		{nvm.New(1024), 64, 1024, api.ErrOut},
		{down(pattern(128)), 0, 0, api.ErrDown},
		{down(pattern(128)), 0, 2, api.ErrDown},
		{down(pattern(128)), 0, 3, api.ErrOut},
		{down(pattern(128)), -64, 0, api.ErrOut},
		{down(pattern(128)), 8, 1, api.ErrArg},
		{down(pattern(128)), 0, 1025, api.ErrArg},
		{nil, 0, 0, api.ErrNil},
		{nil, -64, 1, api.ErrNil},
		{nil, 64, 1024, api.ErrNil},
		{nil, -8, 1, api.ErrArg},
		{nil, 0, -1, api.ErrArg},
		{nil, 0, 1025, api.ErrArg},
		{new(nvm.Dev), 0, 0, api.ErrNil},
		{new(nvm.Dev), 8, 0, api.ErrArg},
	} {
		if e := Clear(c.d, c.off, c.lines); e != c.e {
			t.Errorf("Clear of %d lines at %d of %d bytes: error %d, not %d", c.lines, c.off, c.d.Size(), e, c.e)
		}
	}
}

func TestClearOfAllLines(t *testing.T) { // P4.4, P4.5: of the greatest device, and of what was not durable
	d := nvm.Of(pattern(65536))
	want(t, "Store", d.Store(65528, 5), api.OK)
	want(t, "Clear", Clear(d, 0, 1024), api.OK)
	is(t, "Clear", d, make([]byte, 65536), 1+9*1024+1)
	allSure(t, "Clear", d)
	d.Crash([]uint8{1, 2, 3})
	is(t, "behind a crash", d, make([]byte, 65536), 1+9*1024+1)
}

func TestClearGoesDown(t *testing.T) { // P4.4: at each step of it, as PutAll does
	for after := range 21 {
		for _, picks := range manyPicks {
			d, byHand := nvm.Of(pattern(192)), nvm.Of(pattern(192))
			d.Stop(after)
			byHand.Stop(after)
			e, right := Clear(d, 64, 2), PutAll(byHand, 64, make([]uint64, 16))
			want(t, "Clear", e, right)
			if done := after >= 19; done != (e == api.OK) {
				t.Errorf("Stop(%d): error %d", after, e)
			}
			is(t, "behind the Clear", d, byHand.Image(), min(after, 19))
			d.Crash(picks)
			byHand.Crash(picks)
			is(t, "behind the crash", d, byHand.Image(), min(after, 19))
		}
	}
}

func TestDurable(t *testing.T) { // P4.5: whatever was there, durable or not, and whatever was stored behind it elsewhere
	for _, size := range []int{64, 128, 192} {
		for off := 0; off <= size; off += 8 {
			for many := 0; many <= (size-off)/8; many++ {
				for _, picks := range manyPicks {
					d := unsure(size)
					want(t, "PutAll", PutAll(d, off, numbered(many)), api.OK)
					storeAround(d, off, many)
					d.Crash(picks)
					got(t, "behind the crash", d, off, many, numbered(many), api.OK)
				}
			}
		}
	}
}

// unsure: a device of which each line has several contents, and a mark at one in their midst.
func unsure(size int) *nvm.Dev {
	d := nvm.Of(pattern(size))
	for off := 0; off < size; off += 8 {
		d.Store(off, uint64(off))
		if off%64 == 24 {
			d.Flush(off)
		}
	}
	return d
}

// storeAround: another word wherever none of those at a place stands; not durable.
func storeAround(d *nvm.Dev, off, many int) {
	for at := 0; at < d.Size(); at += 8 {
		if at < off || at >= off+8*many {
			d.Store(at, 77)
		}
	}
}

func TestPutIsDurable(t *testing.T) { // P4.5: each word at each place
	for off := 0; off < 192; off += 8 {
		for _, n := range []uint64{0, 1, 1 << 63, math.MaxUint64} {
			for _, picks := range manyPicks {
				d := unsure(192)
				want(t, "Put", Put(d, off, n), api.OK)
				storeAround(d, off, 1)
				d.Crash(picks)
				got(t, "behind the crash", d, off, 1, []uint64{n}, api.OK)
			}
		}
	}
}

func TestPutsOneBehindTheOther(t *testing.T) { // P4.5: the last one counts, and the ones elsewhere stay; crashes in between
	image := make([]byte, 192)
	d := nvm.New(3)
	for i := range 300 {
		off, many := 8*(i*7%24), i%5
		many = min(many, (192-off)/8)
		l := numbered(many)
		for j := range l {
			l[j] += uint64(i) << 16
		}
		want(t, "PutAll", PutAll(d, off, l), api.OK)
		image = with(image, off, l)
		if i%3 == 0 {
			d.Crash(manyPicks[i%len(manyPicks)])
		}
		is(t, "behind the PutAll", d, image, d.Steps())
		allSure(t, "behind the PutAll", d)
	}
}

func TestDownBehindTheLastStep(t *testing.T) { // P4.5: OK counts, also if the device is down then
	for _, picks := range manyPicks {
		d := nvm.New(3)
		d.Stop(3)
		want(t, "Put", Put(d, 64, 5), api.OK)
		want(t, "another one", Put(d, 72, 6), api.ErrDown)
		d.Crash(picks)
		is(t, "behind the crash", d, with(make([]byte, 192), 64, []uint64{5}), 3)
		d.Stop(12)
		want(t, "PutAll", PutAll(d, 120, numbered(9)), api.OK)
		want(t, "another one", PutAll(d, 120, nil), api.ErrDown)
		d.Crash(picks)
		is(t, "behind the crash", d, with(with(make([]byte, 192), 64, []uint64{5}), 120, numbered(9)), 15)
	}
}

func TestTheExample(t *testing.T) { // the chapter's example
	d := nvm.New(3)
	want(t, "Put", Put(d, 8, 5), api.OK)
	is(t, "Put", d, with(make([]byte, 192), 8, []uint64{5}), 3)
	want(t, "PutAll", PutAll(d, 0, numbered(9)), api.OK)
	is(t, "PutAll", d, with(make([]byte, 192), 0, numbered(9)), 3+9+2+1)
}

func TestHandedInStays(t *testing.T) { // R6: the words, what lies behind them, and whatever the answer is
	for _, d := range []*nvm.Dev{nvm.New(3), nvm.New(1), down(pattern(128)), nil} {
		for _, off := range []int{0, 8, 128, -8, 7} {
			for many := range 12 {
				l := numbered(many)
				PutAll(d, off, l)
				if right := numbered(many); !slices.Equal(l[:cap(l)], right[:cap(right)]) {
					t.Errorf("PutAll of %d words at %d: they are %x now", many, off, l[:cap(l)])
				}
			}
		}
	}
}

func TestHandedInIsNotKept(t *testing.T) { // R6
	d, l := nvm.New(2), numbered(12)
	want(t, "PutAll", PutAll(d, 8, l), api.OK)
	clear(l[:cap(l)])
	is(t, "the words were written over", d, with(make([]byte, 128), 8, numbered(12)), 15)
	want(t, "another PutAll", PutAll(d, 0, nil), api.OK)
	d.Crash([]uint8{1})
	is(t, "the words were written over, and a crash", d, with(make([]byte, 128), 8, numbered(12)), 16)
}

func TestGetAnswersNewMemory(t *testing.T) { // R6
	d := nvm.Of(pattern(128))
	a, _ := Get(d, 0, 16)
	b, _ := Get(d, 0, 16)
	clear(a[:cap(a)])
	if !slices.Equal(b, words(pattern(128), 0, 16)) {
		t.Error("two answers share memory")
	}
	is(t, "an answer was written over", d, pattern(128), 0)
	want(t, "Clear", Clear(d, 0, 2), api.OK)
	if !slices.Equal(b, words(pattern(128), 0, 16)) {
		t.Error("a Clear changed an answer")
	}
}

func TestDevicesAreApart(t *testing.T) { // R4
	a, b := nvm.New(2), nvm.New(2)
	a.Stop(4)
	want(t, "Put on the one", Put(a, 0, 5), api.OK)
	want(t, "Put on the other one", Put(b, 8, 6), api.OK)
	want(t, "Put on the one that goes down", Put(a, 8, 7), api.ErrDown)
	want(t, "Put on the other one", Put(b, 0, 7), api.OK)
	is(t, "the one", a, with(make([]byte, 128), 0, []uint64{5, 7}), 4)
	is(t, "the other one", b, with(make([]byte, 128), 0, []uint64{7, 6}), 6)
}
