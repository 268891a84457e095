package nvm

import (
	"bytes"
	"encoding/binary"
	"math"
	"slices"
	"testing"

	"stillroom/api"
)

// pattern: bytes of which no two neighbours are alike, with room behind them that is no part of them.
func pattern(many int) []byte {
	b := make([]byte, many+16)
	for i := range b {
		b[i] = byte(i*37 + i/64*11 + 5)
	}
	return b[:many]
}

// farPlaces are those that wrap round, or are cut short, when something comes to them.
var farPlaces = []int{math.MinInt, math.MinInt + 8, -1 << 32, -1 << 16, 1 << 16, 1<<16 + 8, 1 << 31, 1 << 32, 1 << 62, math.MaxInt - 63, math.MaxInt - 7, math.MaxInt - 1, math.MaxInt}

// places: all about a device of a size, and those far off.
func places(size int) []int {
	l := slices.Clone(farPlaces)
	for off := -130; off <= size+130; off++ {
		l = append(l, off)
	}
	return l
}

// want: fails unless an answer is that error.
func want(t *testing.T, what string, got, right api.Errno) {
	t.Helper()
	if got != right {
		t.Errorf("%s: error %d, not %d", what, got, right)
	}
}

// wordIs: fails unless the word at a place is that one.
func wordIs(t *testing.T, what string, d *Dev, off int, right uint64) {
	t.Helper()
	if n, e := d.Load(off); n != right || e != api.OK {
		t.Errorf("%s: the word at %d is %x, %d, not %x", what, off, n, e, right)
	}
}

// may: fails unless the lines from 0 on have so many contents.
func may(t *testing.T, what string, d *Dev, right ...int) {
	t.Helper()
	for line, many := range right {
		if n := d.May(line); n != many {
			t.Errorf("%s: line %d has %d contents, not %d", what, line, n, many)
		}
	}
}

// stepsAre: fails unless so many were done.
func stepsAre(t *testing.T, what string, d *Dev, right int) {
	t.Helper()
	if n := d.Steps(); n != right {
		t.Errorf("%s: %d steps, not %d", what, n, right)
	}
}

// isNew: fails unless a device has these bytes, each line one content, and no steps.
func isNew(t *testing.T, what string, d *Dev, image []byte) {
	t.Helper()
	if d == nil {
		t.Errorf("%s: no device", what)
		return
	}
	if !bytes.Equal(d.Image(), image) || d.Size() != len(image) {
		t.Errorf("%s: other bytes, or %d of them, not %d", what, d.Size(), len(image))
	}
	for line := range len(image) / 64 {
		if d.May(line) != 1 {
			t.Errorf("%s: line %d has %d contents", what, line, d.May(line))
		}
	}
	stepsAre(t, what, d, 0)
}

func TestNew(t *testing.T) { // P3.1
	for _, lines := range []int{1, 2, 3, 16, 1023, 1024} {
		isNew(t, "New", New(lines), make([]byte, lines*64))
	}
	for _, lines := range []int{math.MinInt, -1024, -64, -1, 0, 1025, 1026, 2048, 65536, 1 << 32, 1<<32 + 1, 1 << 58, 1<<58 + 1, math.MaxInt} {
		if d := New(lines); d != nil {
			t.Errorf("New(%d): a device", lines)
		}
	}
}

func TestOf(t *testing.T) { // P3.1
	for _, many := range []int{64, 128, 192, 1024, 65472, 65536} {
		isNew(t, "Of", Of(pattern(many)), pattern(many))
		isNew(t, "Of, all bits", Of(bytes.Repeat([]byte{0xff}, many)), bytes.Repeat([]byte{0xff}, many))
	}
	for _, many := range []int{0, 1, 8, 32, 63, 65, 72, 127, 129, 65535, 65537, 65599, 65600, 65664, 131072} {
		if d := Of(pattern(many)); d != nil {
			t.Errorf("Of %d bytes: a device", many)
		}
	}
	if Of(nil) != nil || Of([]byte{}) != nil || Of(pattern(64)[64:]) != nil {
		t.Error("Of no bytes: a device")
	}
}

func TestNewDeviceHasNoMark(t *testing.T) { // P3.1: a Fence with nothing flushed leaves all contents
	for _, d := range []*Dev{New(2), Of(make([]byte, 128))} {
		want(t, "Store", d.Store(0, 5), api.OK)
		want(t, "Fence", d.Fence(), api.OK)
		may(t, "a Fence without a Flush", d, 2, 1)
		d.Crash(nil)
		wordIs(t, "a Fence without a Flush, and a crash", d, 0, 0)
	}
}

func TestNewDeviceNeverGoesDown(t *testing.T) { // P3.1
	for _, d := range []*Dev{New(1), Of(pattern(64))} {
		for i := range 70000 {
			if d.Store(0, uint64(i%2)) != api.OK || i%100 == 0 && d.Flush(0)+d.Fence() != api.OK {
				t.Fatalf("round %d: down", i)
			}
		}
	}
}

// noDevices: those that no call made.
func noDevices() map[string]*Dev {
	return map[string]*Dev{"a nil device": nil, "a zero device": {}, "one that new made": new(Dev)}
}

func TestNoDevice(t *testing.T) { // P3.2, P3.3, P3.6, R7
	for what, d := range noDevices() {
		for range 2 { // as it is, and behind a Stop and a Crash
			for _, off := range []int{0, 8, -8, 1, 64, math.MinInt, math.MaxInt} {
				if n, e := d.Load(off); n != 0 || e != api.ErrNil {
					t.Errorf("%s: Load at %d: %x, %d", what, off, n, e)
				}
				want(t, what+": Store", d.Store(off, 5), api.ErrNil)
				want(t, what+": Flush", d.Flush(off), api.ErrNil)
			}
			want(t, what+": Fence", d.Fence(), api.ErrNil)
			for _, line := range []int{math.MinInt, -1, 0, 1, math.MaxInt} {
				if n := d.May(line); n != 0 {
					t.Errorf("%s: May(%d): %d", what, line, n)
				}
			}
			if d.Size() != 0 || len(d.Image()) != 0 || d.Steps() != 0 {
				t.Errorf("%s: size %d, image of %d, steps %d", what, d.Size(), len(d.Image()), d.Steps())
			}
			d.Stop(1)
			d.Stop(0)
			d.Crash([]uint8{1, 2})
			d.Crash(nil)
		}
	}
}

func TestLoad(t *testing.T) { // P3.2: each word of a device is there, the lowest byte first, and nothing between them
	for _, many := range []int{64, 128, 192} {
		image := pattern(many)
		d := Of(image)
		for _, off := range places(many) {
			n, e := d.Load(off)
			if off < 0 || off > many-8 || off%8 != 0 {
				if n != 0 || e != api.ErrOut {
					t.Errorf("%d bytes, Load at %d: %x, %d", many, off, n, e)
				}
			} else if n != binary.LittleEndian.Uint64(image[off:]) || e != api.OK {
				t.Errorf("%d bytes, Load at %d: %x, %d", many, off, n, e)
			}
		}
		isNew(t, "behind all Loads", d, image)
	}
}

func TestLoadTellsTheLastStore(t *testing.T) { // P3.2: durable or not
	d := New(2)
	for _, n := range []uint64{1, 0, 0x8102030405060799, math.MaxUint64} {
		want(t, "Store", d.Store(72, n), api.OK)
		wordIs(t, "behind the Store", d, 72, n)
		want(t, "Flush", d.Flush(72), api.OK)
		wordIs(t, "behind the Flush", d, 72, n)
		want(t, "Fence", d.Fence(), api.OK)
		wordIs(t, "behind the Fence", d, 72, n)
	}
}

func TestStoreAtAllPlaces(t *testing.T) { // P3.3: one word, and no other; or nothing at all
	const n = 0x8102030405060799
	for _, many := range []int{64, 128, 192} {
		for _, off := range places(many) {
			d, image := Of(pattern(many)), pattern(many)
			e := d.Store(off, n)
			if off < 0 || off > many-8 || off%8 != 0 {
				want(t, "a Store outside", e, api.ErrOut)
				isNew(t, "a Store outside", d, image)
				continue
			}
			want(t, "a Store", e, api.OK)
			binary.LittleEndian.PutUint64(image[off:], n)
			if !bytes.Equal(d.Image(), image) {
				t.Errorf("%d bytes, Store at %d: %x", many, off, d.Image())
			}
			for line := range many / 64 {
				if right := 1 + b2i(off/64 == line); d.May(line) != right {
					t.Errorf("%d bytes, Store at %d: line %d has %d contents", many, off, line, d.May(line))
				}
			}
			stepsAre(t, "a Store", d, 1)
		}
	}
}

func b2i(b bool) int {
	if b {
		return 1
	}
	return 0
}

func TestFlushAtAllPlaces(t *testing.T) { // P3.3: the line of a place, and no other; or nothing at all
	for _, many := range []int{64, 128, 192} {
		for _, off := range places(many) {
			d := New(many / 64)
			for line := range many / 64 {
				want(t, "Store", d.Store(64*line, 5), api.OK)
			}
			e := d.Flush(off)
			right := off >= 0 && off <= many-1
			if right {
				want(t, "a Flush", e, api.OK)
			} else {
				want(t, "a Flush outside", e, api.ErrOut)
			}
			stepsAre(t, "a Flush", d, many/64+b2i(right))
			want(t, "Fence", d.Fence(), api.OK)
			for line := range many / 64 {
				if n := 2 - b2i(right && off/64 == line); d.May(line) != n {
					t.Errorf("%d bytes, Flush at %d: line %d has %d contents", many, off, line, d.May(line))
				}
			}
		}
	}
}

func TestOutsideIsNoStep(t *testing.T) { // P3.3, P3.4, P3.6, R5: an error is no step, and none of those that a Stop leaves
	d := New(1)
	d.Stop(1)
	for _, off := range places(64) {
		if off < 0 || off > 56 || off%8 != 0 {
			want(t, "Store outside", d.Store(off, 5), api.ErrOut)
		}
		if off < 0 || off > 63 {
			want(t, "Flush outside", d.Flush(off), api.ErrOut)
		}
		if _, e := d.Load(off); e == api.ErrDown {
			t.Errorf("down behind what was asked at %d", off)
		}
	}
	stepsAre(t, "what is outside", d, 0)
	want(t, "the one step", d.Fence(), api.OK)
	want(t, "behind it", d.Fence(), api.ErrDown)
	stepsAre(t, "the one step", d, 1)
}

func TestStoreThatChangesNothing(t *testing.T) { // P3.3: it is a step, and no content
	d := Of(bytes.Repeat([]byte{5, 0, 0, 0, 0, 0, 0, 0}, 16))
	want(t, "the same word", d.Store(8, 5), api.OK)
	may(t, "the same word", d, 1, 1)
	want(t, "another word", d.Store(8, 6), api.OK)
	want(t, "the other word again", d.Store(8, 6), api.OK)
	may(t, "the other word twice", d, 2, 1)
	want(t, "the first word", d.Store(8, 5), api.OK)
	may(t, "back to the first word", d, 3, 1)
	stepsAre(t, "four Stores", d, 4)
	d.Stop(1)
	want(t, "the same word, the last step", d.Store(8, 5), api.OK)
	want(t, "behind the last step", d.Store(8, 5), api.ErrDown)
}

func TestTheChange(t *testing.T) { // P3.3: each bit of a word makes it another one
	for bit := range 64 {
		for off := 0; off < 64; off += 8 {
			d := New(1)
			want(t, "Store", d.Store(off, 1<<bit), api.OK)
			may(t, "one bit", d, 2)
			wordIs(t, "one bit", d, off, 1<<bit)
			d.Crash([]uint8{0})
			wordIs(t, "one bit taken back", d, off, 0)
		}
	}
}

func TestFenceBehindAFlush(t *testing.T) { // P3.3: all contents ahead of the mark go
	d := New(1)
	for i := range 5 {
		want(t, "Store", d.Store(8*i, 7), api.OK)
	}
	may(t, "five Stores", d, 6)
	want(t, "Flush", d.Flush(0), api.OK)
	may(t, "a Flush alone", d, 6)
	want(t, "Fence", d.Fence(), api.OK)
	may(t, "Flush and Fence", d, 1)
	stepsAre(t, "all of it", d, 7)
}

func TestFlushWithNothingStored(t *testing.T) { // P3.3
	d := New(1)
	want(t, "Flush of a new line", d.Flush(0), api.OK)
	want(t, "Store", d.Store(0, 5), api.OK)
	want(t, "Fence", d.Fence(), api.OK)
	may(t, "the mark was ahead of the Store", d, 2)
	want(t, "Fence", d.Fence(), api.OK)
	may(t, "the mark is gone", d, 2)
	want(t, "Flush", d.Flush(0), api.OK)
	want(t, "Flush again", d.Flush(0), api.OK)
	want(t, "Fence", d.Fence(), api.OK)
	may(t, "two Flushes, one Fence", d, 1)
	want(t, "Flush of a durable line", d.Flush(63), api.OK)
	want(t, "Fence", d.Fence(), api.OK)
	may(t, "nothing was stored", d, 1)
	wordIs(t, "nothing was stored", d, 0, 5)
}

func TestStoreBetweenFlushAndFence(t *testing.T) { // P3.3: what was stored behind the Flush is not durable
	prepare := func() *Dev {
		d := New(1)
		want(t, "Store", d.Store(0, 5), api.OK)
		want(t, "Flush", d.Flush(0), api.OK)
		want(t, "Store", d.Store(0, 6), api.OK)
		want(t, "Store", d.Store(8, 7), api.OK)
		may(t, "ahead of the Fence", d, 4)
		want(t, "Fence", d.Fence(), api.OK)
		may(t, "behind the Fence", d, 3)
		return d
	}
	for pick, right := range [][2]uint64{{5, 0}, {6, 0}, {6, 7}} {
		d := prepare()
		d.Crash([]uint8{uint8(pick)})
		wordIs(t, "behind the crash", d, 0, right[0])
		wordIs(t, "behind the crash", d, 8, right[1])
	}
	d := prepare()
	want(t, "a second Fence", d.Fence(), api.OK)
	may(t, "the mark is gone: a second Fence", d, 3)
	want(t, "a second Flush", d.Flush(0), api.OK)
	want(t, "a third Fence", d.Fence(), api.OK)
	may(t, "a second Flush, a third Fence", d, 1)
	wordIs(t, "at the end", d, 8, 7)
}

func TestALaterFlushMovesTheMark(t *testing.T) { // P3.3
	d := New(1)
	want(t, "Store", d.Store(0, 5), api.OK)
	want(t, "Flush", d.Flush(0), api.OK)
	want(t, "Store", d.Store(0, 6), api.OK)
	want(t, "Flush", d.Flush(8), api.OK)
	want(t, "Store", d.Store(0, 7), api.OK)
	want(t, "Fence", d.Fence(), api.OK)
	may(t, "the mark of the later Flush", d, 2)
	d.Crash(nil)
	wordIs(t, "the first content", d, 0, 6)
}

func TestFenceOfManyLines(t *testing.T) { // P3.3, P3.7: just those with a mark
	d := New(1024)
	for line := range 1024 {
		want(t, "Store", d.Store(64*line+8, uint64(line)+1), api.OK)
		if line%3 == 0 {
			want(t, "Flush", d.Flush(64*line+line%64), api.OK)
		}
	}
	want(t, "Fence", d.Fence(), api.OK)
	for line := range 1024 {
		if n := d.May(line); n != 1+b2i(line%3 != 0) {
			t.Errorf("line %d has %d contents", line, n)
		}
	}
	d.Crash(nil)
	for line := range 1024 {
		wordIs(t, "behind the crash", d, 64*line+8, uint64(b2i(line%3 == 0)*(line+1)))
	}
}

// isDown: fails unless a device tells so, whatever place is asked for.
func isDown(t *testing.T, what string, d *Dev) {
	t.Helper()
	steps, image, many := d.Steps(), d.Image(), d.May(0)
	for _, off := range []int{0, 8, 1, -1, -8, d.Size() - 1, d.Size(), math.MinInt, math.MaxInt} {
		if n, e := d.Load(off); n != 0 || e != api.ErrDown {
			t.Errorf("%s: Load at %d: %x, %d", what, off, n, e)
		}
		want(t, what+": Store", d.Store(off, 99), api.ErrDown)
		want(t, what+": Flush", d.Flush(off), api.ErrDown)
	}
	want(t, what+": Fence", d.Fence(), api.ErrDown)
	if d.Steps() != steps || !bytes.Equal(d.Image(), image) || d.May(0) != many {
		t.Errorf("%s: something was done", what)
	}
}

// step: the first one is a Store, then a Flush, a Fence, a Store that changes nothing, and so on.
func step(d *Dev, i int) api.Errno {
	switch i % 4 {
	case 0:
		return d.Store(0, uint64(i)+1)
	case 1:
		return d.Flush(0)
	case 2:
		return d.Fence()
	}
	n, _ := d.Load(0)
	return d.Store(0, n)
}

func TestStop(t *testing.T) { // P3.4: each kind of step counts, and the last one is done yet
	for from := range 4 {
		for after := 1; after <= 9; after++ {
			d := New(1)
			d.Stop(after)
			for i := range after {
				if n, e := d.Load(0); e != api.OK {
					t.Errorf("Stop(%d), %d were done: Load %x, %d", after, i, n, e)
				}
				want(t, "a step", step(d, from+i), api.OK)
			}
			stepsAre(t, "up to the Stop", d, after)
			isDown(t, "behind the last step", d)
		}
	}
}

func TestTheLastStepIsDone(t *testing.T) { // P3.4
	d := New(1)
	d.Stop(1)
	want(t, "Store", d.Store(0, 5), api.OK)
	may(t, "the Store", d, 2)
	if d.Image()[0] != 5 {
		t.Error("the last Store was not done")
	}
	d.Crash(nil)
	want(t, "Store", d.Store(0, 6), api.OK)
	d.Stop(2)
	want(t, "Flush", d.Flush(0), api.OK)
	want(t, "Fence", d.Fence(), api.OK)
	may(t, "the Fence", d, 1)
	isDown(t, "behind the Fence", d)
	d.Crash(nil)
	wordIs(t, "the last Fence", d, 0, 6)
	want(t, "Store", d.Store(0, 7), api.OK)
	d.Stop(1)
	want(t, "Flush", d.Flush(0), api.OK)
	isDown(t, "behind the Flush", d)
	may(t, "a Flush without its Fence", d, 2)
}

func TestStopAtOnce(t *testing.T) { // P3.4
	for _, after := range []int{0, -1, -2, -1000, math.MinInt} {
		d := New(1)
		want(t, "Store", d.Store(0, 5), api.OK)
		d.Stop(after)
		isDown(t, "Stop at once", d)
		stepsAre(t, "Stop at once", d, 1)
		may(t, "Stop at once", d, 2)
		d.Crash([]uint8{1})
		wordIs(t, "up again", d, 0, 5)
	}
}

func TestALaterStopCountsAlone(t *testing.T) { // P3.4
	for _, first := range []int{1, 2, 5, 1000, math.MaxInt} {
		for _, second := range []int{1, 2, 3, 10, 0, -1} {
			d := New(1)
			d.Stop(first)
			d.Stop(second)
			for i := range max(second, 0) {
				want(t, "a step behind two Stops", step(d, i), api.OK)
			}
			isDown(t, "behind the second Stop", d)
		}
	}
	d := New(1)
	d.Stop(2)
	want(t, "a step", step(d, 0), api.OK)
	d.Stop(2)
	want(t, "a step", step(d, 1), api.OK)
	want(t, "a step", step(d, 2), api.OK)
	isDown(t, "counted from the second Stop on", d)
}

func TestAFarStop(t *testing.T) { // P3.4
	d := New(1)
	d.Stop(math.MaxInt)
	for i := range 1000 {
		want(t, "a step", step(d, i), api.OK)
	}
}

func TestStopOfOneThatIsDown(t *testing.T) { // P3.4, P3.5: nothing, and nothing that a crash would leave
	for _, after := range []int{1, 2, 1000, math.MaxInt, 0, -1} {
		d := New(1)
		d.Stop(0)
		d.Stop(after)
		isDown(t, "a Stop of one that is down", d)
		d.Crash(nil)
		for i := range 2000 {
			if step(d, i) != api.OK {
				t.Fatalf("Stop(%d) of one that was down counts behind the crash", after)
			}
		}
	}
}

func TestCrashOfOneThatIsUp(t *testing.T) { // P3.5: no Stop ahead of it counts any more
	for _, after := range []int{1, 2, 3, 5} {
		d := New(1)
		d.Stop(after)
		d.Crash(nil)
		for i := range 2000 {
			if step(d, i) != api.OK {
				t.Fatalf("Stop(%d) counts behind the crash", after)
			}
		}
		d.Stop(1)
		want(t, "a step", step(d, 0), api.OK)
		isDown(t, "a Stop behind the crash", d)
	}
}

func TestCrashOfOneThatIsDown(t *testing.T) { // P3.5
	d := New(2)
	want(t, "Store", d.Store(0, 5), api.OK)
	want(t, "Store", d.Store(64, 6), api.OK)
	d.Stop(0)
	d.Crash([]uint8{0, 1})
	wordIs(t, "the pick 0", d, 0, 0)
	wordIs(t, "the pick 1", d, 64, 6)
	may(t, "behind the crash", d, 1, 1)
	stepsAre(t, "a crash is no step", d, 2)
}

func TestCrashLeavesEachContent(t *testing.T) { // P3.5: all picks, modulo
	words := []uint64{0, 5, 6, 5, 0, math.MaxUint64, 1}
	for pick := range 256 {
		d := New(1)
		for _, n := range words[1:] {
			want(t, "Store", d.Store(48, n), api.OK)
		}
		may(t, "ahead of the crash", d, len(words))
		d.Crash([]uint8{uint8(pick)})
		wordIs(t, "behind the crash", d, 48, words[pick%len(words)])
		may(t, "behind the crash", d, 1)
	}
}

func TestCrashOfSeveralWords(t *testing.T) { // P3.5: a content is the whole line
	image := pattern(64)
	contents := [][]byte{slices.Clone(image)}
	stores := []struct {
		off int
		n   uint64
	}{{0, 1}, {56, 2}, {0, 3}, {24, 4}, {56, 5}, {0, 1}}
	for _, s := range stores {
		binary.LittleEndian.PutUint64(image[s.off:], s.n)
		contents = append(contents, slices.Clone(image))
	}
	for pick, right := range contents {
		d := Of(pattern(64))
		for _, s := range stores {
			want(t, "Store", d.Store(s.off, s.n), api.OK)
		}
		d.Crash([]uint8{uint8(pick)})
		if !bytes.Equal(d.Image(), right) {
			t.Errorf("pick %d: %x, not %x", pick, d.Image(), right)
		}
	}
}

func TestCrashOfMoreContentsThanPicks(t *testing.T) { // P3.5: a line of 256 and of more
	for _, many := range []int{255, 256, 257, 300, 1000} {
		for _, pick := range []int{0, 1, 127, 128, 254, 255} {
			d := New(1)
			for i := 1; i < many; i++ {
				want(t, "Store", d.Store(0, uint64(i)), api.OK)
			}
			may(t, "ahead of the crash", d, many)
			d.Crash([]uint8{uint8(pick)})
			wordIs(t, "behind the crash", d, 0, uint64(pick%many))
		}
	}
}

// someLines: seven lines, of which 1, 3, 4 and 6 have two, three, four and five contents: the word at 8 is a content's number.
func someLines() *Dev {
	d := New(7)
	for line, many := range []int{1, 2, 1, 3, 4, 1, 5} {
		for i := 1; i < many; i++ {
			d.Store(64*line+8, uint64(i))
		}
	}
	return d
}

func TestPicksByRisingLines(t *testing.T) { // P3.5: those with one content take none; what is missing is 0; more than that is left
	for _, c := range []struct {
		picks []uint8
		right [7]uint64
	}{
		{nil, [7]uint64{}},
		{[]uint8{}, [7]uint64{}},
		{[]uint8{1}, [7]uint64{1: 1}},
		{[]uint8{1, 2}, [7]uint64{1: 1, 3: 2}},
		{[]uint8{0, 2, 3}, [7]uint64{3: 2, 4: 3}},
		{[]uint8{1, 2, 3, 4}, [7]uint64{1: 1, 3: 2, 4: 3, 6: 4}},
		{[]uint8{0, 0, 0, 4}, [7]uint64{6: 4}},
		{[]uint8{2, 3, 4, 5}, [7]uint64{}},
		{[]uint8{3, 4, 5, 6}, [7]uint64{1: 1, 3: 1, 4: 1, 6: 1}},
		{[]uint8{255, 255, 255, 255}, [7]uint64{1: 1, 3: 0, 4: 3, 6: 0}},
		{[]uint8{1, 2, 3, 4, 1, 2, 3, 4}, [7]uint64{1: 1, 3: 2, 4: 3, 6: 4}},
	} {
		d := someLines()
		d.Crash(c.picks)
		for line, n := range c.right {
			wordIs(t, "behind the crash", d, 64*line+8, n)
		}
		may(t, "behind the crash", d, 1, 1, 1, 1, 1, 1, 1)
	}
}

func TestMarksGoInACrash(t *testing.T) { // P3.5: a mark from ahead of it is none behind it
	d := New(1)
	want(t, "Store", d.Store(0, 5), api.OK)
	want(t, "Store", d.Store(0, 6), api.OK)
	want(t, "Flush", d.Flush(0), api.OK)
	d.Crash([]uint8{0})
	for i := range 4 {
		want(t, "Store", d.Store(0, uint64(i)+7), api.OK)
	}
	want(t, "Fence", d.Fence(), api.OK)
	may(t, "a Fence behind the crash", d, 5)
}

func TestWhatWasTakenBackIsGone(t *testing.T) { // P3.5: two crashes, one behind the other
	d := someLines()
	d.Crash([]uint8{1, 2, 3, 4})
	d.Crash([]uint8{0, 0, 0, 0})
	for line, n := range []uint64{0, 1, 0, 2, 3, 0, 4} {
		wordIs(t, "behind two crashes", d, 64*line+8, n)
	}
	want(t, "Store", d.Store(8, 9), api.OK)
	may(t, "a Store behind it", d, 2, 1)
	d.Crash([]uint8{0})
	wordIs(t, "a third crash", d, 8, 0)
}

func TestMay(t *testing.T) { // P3.6
	d := New(3)
	want(t, "Store", d.Store(64, 5), api.OK)
	may(t, "three lines", d, 1, 2, 1)
	for _, line := range []int{math.MinInt, -64, -2, -1, 3, 4, 64, 192, 1024, 1 << 32, 1 << 58, math.MaxInt} {
		if n := d.May(line); n != 0 {
			t.Errorf("May(%d) of three lines: %d", line, n)
		}
	}
	d.Stop(0)
	may(t, "one that is down", d, 1, 2, 1, 0)
}

func TestImage(t *testing.T) { // P3.6: as it is now, durable or not, up or down
	d, image := Of(pattern(192)), pattern(192)
	for i, off := range []int{0, 56, 64, 128, 184, 64} {
		want(t, "Store", d.Store(off, uint64(i)+77), api.OK)
		binary.LittleEndian.PutUint64(image[off:], uint64(i)+77)
		if !bytes.Equal(d.Image(), image) {
			t.Errorf("behind the Store at %d: %x, not %x", off, d.Image(), image)
		}
	}
	d.Stop(0)
	if !bytes.Equal(d.Image(), image) || d.Size() != 192 {
		t.Errorf("down: %x, not %x", d.Image(), image)
	}
	isNew(t, "a device of the image", Of(d.Image()), image)
}

func TestSteps(t *testing.T) { // P3.6: those that were done alone, all in all, crashes or not
	d := New(2)
	for i := range 12 {
		stepsAre(t, "a step each", d, i)
		want(t, "a step", step(d, i), api.OK)
	}
	d.Load(0)
	d.Load(1)
	d.May(0)
	d.Image()
	d.Stop(5)
	d.Crash(nil)
	stepsAre(t, "no steps", d, 12)
	want(t, "a step", step(d, 0), api.OK)
	stepsAre(t, "behind a crash", d, 13)
	d.Stop(0)
	d.Crash(nil)
	stepsAre(t, "behind another one", d, 13)
}

func TestTheExample(t *testing.T) { // the chapter's example, and the document's first one
	for pick, right := range []uint64{0, 5, 0, 5} {
		d := New(1)
		want(t, "Store", d.Store(0, 5), api.OK)
		d.Crash([]uint8{uint8(pick)})
		wordIs(t, "a Store, and a crash", d, 0, right)
		d = New(1)
		want(t, "Store", d.Store(0, 5), api.OK)
		want(t, "Flush", d.Flush(0), api.OK)
		want(t, "Fence", d.Fence(), api.OK)
		d.Crash([]uint8{uint8(pick)})
		wordIs(t, "a Store, a Flush, a Fence and a crash", d, 0, 5)
	}
}

func TestHandedInStays(t *testing.T) { // R6: the image and the picks, and what lies behind them
	image := pattern(128)
	d := Of(image)
	want(t, "Store", d.Store(0, 99), api.OK)
	want(t, "Store", d.Store(120, 99), api.OK)
	picks := pattern(3)
	d.Crash(picks)
	if !bytes.Equal(image[:cap(image)], pattern(144)[:cap(image)]) {
		t.Error("the image was changed")
	}
	if !bytes.Equal(picks[:cap(picks)], pattern(19)[:cap(picks)]) {
		t.Error("the picks were changed")
	}
}

func TestHandedInIsNotKept(t *testing.T) { // R6
	image := pattern(128)
	d := Of(image)
	clear(image[:cap(image)])
	isNew(t, "the image was written over", d, pattern(128))
	picks := []uint8{1}
	want(t, "Store", d.Store(0, 99), api.OK)
	d.Crash(picks)
	picks[0] = 0
	wordIs(t, "the picks were written over", d, 0, 99)
}

func TestImageIsNewMemory(t *testing.T) { // R6
	d := Of(pattern(128))
	a, b := d.Image(), d.Image()
	clear(a[:cap(a)])
	if !bytes.Equal(b, pattern(128)) {
		t.Error("two images share memory")
	}
	isNew(t, "an image was written over", d, pattern(128))
	want(t, "Store", d.Store(0, 99), api.OK)
	if !bytes.Equal(b, pattern(128)) {
		t.Error("a Store changed an image")
	}
}

func TestDevicesAreApart(t *testing.T) { // R4
	a, b := New(1), New(1)
	want(t, "Store", a.Store(0, 5), api.OK)
	want(t, "Flush", a.Flush(0), api.OK)
	a.Stop(1)
	want(t, "Store", b.Store(0, 6), api.OK)
	want(t, "Fence", b.Fence(), api.OK)
	may(t, "the other one", b, 2)
	want(t, "Fence", a.Fence(), api.OK)
	isDown(t, "the one", a)
	may(t, "the one", a, 1)
	want(t, "a step of the other one", b.Fence(), api.OK)
	stepsAre(t, "the one", a, 3)
	stepsAre(t, "the other one", b, 3)
}
