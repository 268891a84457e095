package head

import (
	"bytes"
	"encoding/binary"
	"hash/crc32"
	"math"
	"slices"
	"strconv"
	"testing"

	"stillroom/api"
	"stillroom/nvm"
)

// fewLines are numbers of lines that are too few for a slab, and so none's: also below 0, and those that wrap round as bytes.
var fewLines = []int{math.MinInt, math.MinInt + 1, -1 << 62, -1 << 58, -1 << 32, -1 << 31, -1024, -65, -64, -19, -16, -8, -3, -2, -1, 0, 1, 2, 3, 4, 8, 16, 17, 18}

// manyLines are numbers of lines that no device has.
var manyLines = []int{1025, 1026, 1034, 2048, 1 << 16, 1<<16 + 19, 1 << 31, 1 << 32, 1<<32 + 19, 1 << 58, 1<<58 + 19, 1 << 62, math.MaxInt - 1, math.MaxInt}

// manyPicks are what crashes in these tests are handed: none, the same of all lines, some of each.
var manyPicks = [][]uint8{nil, {0, 0, 0}, {1, 1, 1}, {2, 2, 2}, {3, 3, 3}, {4, 4}, {5, 5}, {6, 6}, {7, 7, 7}, {8, 8, 8}, {255, 255, 255}, {1, 0, 2}, {0, 2, 1}, {1}, {9, 5, 250}}

// allShapes: by hand, those of 19 to 1024 lines. A slab needs its 16 lines, and each slab whose number is a multiple of 8 begins a line of the table.
func allShapes() []Shape {
	var l []Shape
	for lines := 19; lines <= 1024; lines++ {
		slabs, table, left := 0, 0, lines-2
		for {
			if slabs%8 == 0 {
				left--
			}
			left -= 16
			if left < 0 {
				break
			}
			if slabs%8 == 0 {
				table++
			}
			slabs++
		}
		l = append(l, Shape{Lines: lines, Slabs: slabs, Table: 128, Data: 64 * (2 + table)})
	}
	return l
}

// someShapes: the least and the greatest, and those where a slab more, or a line of the table more, comes in.
func someShapes() []Shape {
	var l []Shape
	for _, s := range allShapes() {
		if slices.Contains([]int{19, 20, 34, 35, 36, 51, 130, 131, 147, 148, 1017, 1018, 1023, 1024}, s.Lines) {
			l = append(l, s)
		}
	}
	return l
}

// header: by hand, the first line of a shape, be it right or not.
func header(s Shape) []uint64 {
	return summed(0x6c6c697473, 1, uint64(s.Lines), uint64(s.Slabs), uint64(s.Table), uint64(s.Data))
}

// summed: six words, their check sum, and 0.
func summed(l ...uint64) []uint64 {
	sum := crc32.Checksum(bytesBy(l), crc32.MakeTable(crc32.Castagnoli))
	return append(l, uint64(sum), 0)
}

// bytesBy: words as bytes.
func bytesBy(l []uint64) []byte {
	var b []byte
	for _, n := range l {
		b = binary.LittleEndian.AppendUint64(b, n)
	}
	return b
}

// formatted: all the bytes of a device that was formatted.
func formatted(s Shape) []byte {
	b := make([]byte, 64*s.Lines)
	copy(b, bytesBy(header(s)))
	return b
}

// pattern: bytes of which no two neighbours, and no two words, are alike, and none is 0.
func pattern(lines int) []byte {
	b := make([]byte, 64*lines)
	for i := range b {
		b[i] = byte(i*37+i/64*11+5) | 1
	}
	return b
}

// unsure: a device with words in each line, of which some are not durable, and a mark in their midst.
func unsure(lines int) *nvm.Dev {
	d := nvm.Of(pattern(lines))
	for off := 0; off < d.Size(); off += 8 {
		d.Store(off, uint64(off)+9)
		if off%64 == 24 {
			d.Flush(off)
		}
	}
	return d
}

// down: a device that is down, of some bytes.
func down(image []byte) *nvm.Dev {
	d := nvm.Of(image)
	d.Stop(0)
	return d
}

// noDevices: those that no call made.
func noDevices() map[string]*nvm.Dev {
	return map[string]*nvm.Dev{"a nil device": nil, "a zero device": {}, "one that new made": new(nvm.Dev), "no device of nvm.New": nvm.New(0), "no device of nvm.Of": nvm.Of(nil)}
}

// want: fails unless an answer is that shape, and that error.
func want(t *testing.T, what string, s Shape, e api.Errno, right Shape, wrong api.Errno) {
	t.Helper()
	if s != right || e != wrong {
		t.Errorf("%s: %v, error %d, not %v, %d", what, s, e, right, wrong)
	}
}

// opens: fails unless Open answers that, and leaves the device as it was.
func opens(t *testing.T, what string, d *nvm.Dev, right Shape, wrong api.Errno) {
	t.Helper()
	before := stateOf(d)
	s, e := Open(d)
	want(t, what+", Open", s, e, right, wrong)
	if stateOf(d) != before {
		t.Errorf("%s: Open changed the device", what)
	}
}

// stateOf: all that a device tells without a step.
func stateOf(d *nvm.Dev) string {
	_, e := d.Load(0)
	l := []byte(strconv.Itoa(d.Steps()) + " " + strconv.Itoa(int(e)))
	for line := range d.Size() / 64 {
		l = append(l, " "+strconv.Itoa(d.May(line))...)
	}
	return string(append(l, d.Image()...))
}

func TestOf(t *testing.T) { // P5.1: each number of lines that has a shape
	for _, right := range allShapes() {
		if s, ok := Of(right.Lines); s != right || !ok {
			t.Errorf("Of(%d): %v, %v, not %v", right.Lines, s, ok, right)
		}
	}
}

func TestOfByName(t *testing.T) { // P5.1: the edges, as numbers
	for _, right := range []Shape{
		{19, 1, 128, 192},
		{20, 1, 128, 192},
		{34, 1, 128, 192},
		{35, 2, 128, 192},
		{50, 2, 128, 192},
		{51, 3, 128, 192},
		{130, 7, 128, 192},
		{131, 8, 128, 192},
		{147, 8, 128, 192},
		{148, 9, 128, 256},
		{163, 9, 128, 256},
		{164, 10, 128, 256},
		{921, 56, 128, 576},
		{922, 57, 128, 640},
		{1017, 62, 128, 640},
		{1018, 63, 128, 640},
		{1023, 63, 128, 640},
		{1024, 63, 128, 640},
	} {
		if s, ok := Of(right.Lines); s != right || !ok {
			t.Errorf("Of(%d): %v, %v, not %v", right.Lines, s, ok, right)
		}
	}
}

func TestOfNone(t *testing.T) { // P5.1: too few lines, and too many
	for _, lines := range slices.Concat(fewLines, manyLines) {
		if s, ok := Of(lines); s != (Shape{}) || ok {
			t.Errorf("Of(%d): %v, %v", lines, s, ok)
		}
	}
}

func TestOfIsTheGreatest(t *testing.T) { // P5.1: its slabs go in, and one more does not; what stands there does not meet
	for lines := 19; lines <= 1024; lines++ {
		s, _ := Of(lines)
		need := func(slabs int) int { return 2 + int(math.Ceil(float64(slabs)/8)) + 16*slabs }
		if need(s.Slabs) > lines || need(s.Slabs+1) <= lines {
			t.Errorf("Of(%d): %d slabs need %d lines, one more %d", lines, s.Slabs, need(s.Slabs), need(s.Slabs+1))
		}
		if s.Table <= Root || s.Data < s.Table+8*s.Slabs || s.Data%64 != 0 || s.Data+1024*s.Slabs > 64*lines {
			t.Errorf("Of(%d): %v does not stand on it", lines, s)
		}
	}
}

func TestPlaces(t *testing.T) { // the words of the line 1
	if Slot != 64 || Root != 72 {
		t.Errorf("Slot %d, Root %d", Slot, Root)
	}
}

func TestWords(t *testing.T) { // P5.2: of each shape
	for _, s := range allShapes() {
		if l := Words(s); !slices.Equal(l, header(s)) {
			t.Errorf("Words(%v): %x, not %x", s, l, header(s))
		}
	}
}

func TestWordsByName(t *testing.T) { // P5.2: as numbers
	for _, c := range []struct {
		s Shape
		l []uint64
	}{
		{Shape{19, 1, 128, 192}, []uint64{0x6c6c697473, 1, 19, 1, 128, 192, 0xac9da084, 0}},
		{Shape{148, 9, 128, 256}, []uint64{0x6c6c697473, 1, 148, 9, 128, 256, 0x2469d110, 0}},
		{Shape{1024, 63, 128, 640}, []uint64{0x6c6c697473, 1, 1024, 63, 128, 640, 0xcbfef713, 0}},
	} {
		l := Words(c.s)
		if !slices.Equal(l, c.l) {
			t.Fatalf("Words(%v): %x, not %x", c.s, l, c.l)
		}
		if first := string(bytesBy(l[:1])); first != "still\x00\x00\x00" {
			t.Errorf("Words(%v): the first one is %q", c.s, first)
		}
	}
}

func TestWordsNone(t *testing.T) { // P5.2: of the zero shape, and of those that have no right number of lines
	none := func(s Shape) {
		t.Helper()
		if l := Words(s); len(l) != 0 {
			t.Errorf("Words(%v): %x", s, l)
		}
	}
	none(Shape{})
	for _, lines := range slices.Concat(fewLines, manyLines) {
		none(Shape{Lines: lines})
		for _, s := range someShapes() {
			s.Lines = lines
			none(s)
		}
		// what the words of P5.1 would come to there, did they go on
		none(Shape{lines, 0, 128, 128})
		none(Shape{lines, (lines - 2) / 16, 128, 64 * (2 + (lines-2)/128)})
		none(Shape{lines, 64, 128, 640})
	}
}

// turned: a shape with any one field turned: bit by bit, and to numbers nearby and far off.
func turned(s Shape) []Shape {
	var l []Shape
	for field := range 4 {
		one := func(n int) {
			x := s
			*[]*int{&x.Lines, &x.Slabs, &x.Table, &x.Data}[field] = n
			if x != s {
				l = append(l, x)
			}
		}
		was := []int{s.Lines, s.Slabs, s.Table, s.Data}[field]
		for bit := range 64 {
			one(was ^ 1<<bit)
		}
		for _, n := range []int{math.MinInt, -1, 0, -was, was - 64, was - 16, was - 8, was - 1, was + 1, was + 8, was + 16, was + 64, math.MaxInt} {
			one(n)
		}
	}
	return l
}

func TestWordsOfTurned(t *testing.T) { // P5.2: none, unless what the turned one is is a shape as well (other lines with as many slabs)
	all := map[Shape]int{}
	for _, s := range allShapes() {
		all[s] = s.Lines
	}
	for _, s := range allShapes() {
		for _, x := range turned(s) {
			l := Words(x)
			if all[x] == 0 && len(l) != 0 || all[x] != 0 && !slices.Equal(l, header(x)) {
				t.Fatalf("Words(%v): %x", x, l)
			}
		}
	}
}

func TestFormat(t *testing.T) { // P5.3, P5.5: each number of lines, of bytes that are durable
	for _, s := range allShapes() {
		what := strconv.Itoa(s.Lines) + " lines"
		d := nvm.Of(pattern(s.Lines))
		isFormatted(t, what, d, s)
		opens(t, what, d, s, api.OK)
		d.Crash([]uint8{1, 2, 3})
		opens(t, what+", behind a crash", d, s, api.OK)
	}
}

// isFormatted: fails unless Format answers that shape, in as many steps as the words say, and all is durable then.
func isFormatted(t *testing.T, what string, d *nvm.Dev, right Shape) {
	t.Helper()
	was := d.Steps()
	s, e := Format(d)
	want(t, what+", Format", s, e, right, api.OK)
	if !bytes.Equal(d.Image(), formatted(right)) {
		t.Errorf("%s: the bytes are not those of a device that was formatted", what)
	}
	// of each line 8 Stores and a Flush, and a Fence; of the words 8, and 1, and 1
	if steps := d.Steps() - was; steps != 9*right.Lines+1+10 {
		t.Errorf("%s: %d steps", what, steps)
	}
	for line := range right.Lines {
		if d.May(line) != 1 {
			t.Errorf("%s: line %d has %d contents", what, line, d.May(line))
		}
	}
}

func TestFormatOfOtherDevices(t *testing.T) { // P5.3, P5.5: new ones, those with words that are not durable, behind a crash, formatted ones, those with another header
	for _, s := range someShapes() {
		for what, d := range devices(s.Lines) {
			isFormatted(t, what, d, s)
			for _, picks := range manyPicks {
				d.Crash(picks)
				opens(t, what, d, s, api.OK)
			}
			if !bytes.Equal(d.Image(), formatted(s)) {
				t.Errorf("%s: a crash changed what was formatted", what)
			}
			isFormatted(t, what+", again", d, s)
		}
	}
}

// devices: those of so many lines that Format meets.
func devices(lines int) map[string]*nvm.Dev {
	l := map[string]*nvm.Dev{"a new one": nvm.New(lines), "one with words": nvm.Of(pattern(lines)), "one with words that are not durable": unsure(lines)}
	behind := unsure(lines)
	behind.Crash([]uint8{3, 1, 4, 1, 5})
	l["one behind a crash"] = behind
	for _, s := range []Shape{{19, 1, 128, 192}, {1024, 63, 128, 640}} {
		other := pattern(lines)
		copy(other, bytesBy(header(s)))
		l["one with words of "+strconv.Itoa(s.Lines)] = nvm.Of(other)
	}
	return l
}

func TestFormatIsWrong(t *testing.T) { // P5.3, R2, R3, R5: nothing is done then
	for what, d := range noDevices() {
		s, e := Format(d)
		want(t, what+", Format", s, e, Shape{}, api.ErrNil)
	}
	for lines := 1; lines <= 18; lines++ {
		for what, d := range map[string]*nvm.Dev{"a new one": nvm.New(lines), "with words": unsure(lines), "down": down(pattern(lines))} {
			before := stateOf(d)
			s, e := Format(d)
			want(t, strconv.Itoa(lines)+" lines, "+what+", Format", s, e, Shape{}, api.ErrArg)
			if stateOf(d) != before {
				t.Errorf("%d lines, %s: Format changed the device", lines, what)
			}
		}
	}
	for _, right := range someShapes() {
		for _, image := range [][]byte{pattern(right.Lines), formatted(right)} {
			d := down(image)
			before := stateOf(d)
			s, e := Format(d)
			want(t, strconv.Itoa(right.Lines)+" lines, down, Format", s, e, Shape{}, api.ErrDown)
			if stateOf(d) != before {
				t.Errorf("%d lines, down: Format changed the device", right.Lines)
			}
		}
	}
}

func TestOpen(t *testing.T) { // P5.4: the words alone count, wherever they come from, durable or not, and whatever else there is
	for _, s := range allShapes() {
		what := strconv.Itoa(s.Lines) + " lines"
		opens(t, what, nvm.Of(formatted(s)), s, api.OK)
		image := pattern(s.Lines)
		copy(image, bytesBy(header(s)))
		opens(t, what+" with words elsewhere", nvm.Of(image), s, api.OK)
	}
	for _, s := range someShapes() {
		d := unsure(s.Lines)
		for i, n := range header(s) {
			opens(t, "words that are not yet there", d, Shape{}, api.ErrCorrupt)
			d.Store(8*i, n)
		}
		opens(t, "words that are not durable", d, s, api.OK)
		d.Crash(nil)
		opens(t, "behind a crash that took them back", d, Shape{}, api.ErrCorrupt)
	}
}

func TestOpenIsWrong(t *testing.T) { // P5.4: no device, one that is down, one without a header, one with too few lines
	for what, d := range noDevices() {
		opens(t, what, d, Shape{}, api.ErrNil)
	}
	for lines := 1; lines <= 1024; lines++ {
		if lines > 40 && lines < 1018 {
			continue
		}
		what := strconv.Itoa(lines) + " lines"
		opens(t, what+", new", nvm.New(lines), Shape{}, api.ErrCorrupt)
		opens(t, what+", of other bytes", nvm.Of(pattern(lines)), Shape{}, api.ErrCorrupt)
		opens(t, what+", of bytes that are all set", nvm.Of(bytes.Repeat([]byte{255}, 64*lines)), Shape{}, api.ErrCorrupt)
		opens(t, what+", down", down(pattern(lines)), Shape{}, api.ErrDown)
	}
	for _, s := range someShapes() {
		opens(t, "formatted, down", down(formatted(s)), Shape{}, api.ErrDown)
	}
}

// withHeader: a device of so many lines with these words at 0.
func withHeader(lines int, l []uint64) *nvm.Dev {
	image := make([]byte, 64*lines)
	copy(image, bytesBy(l))
	return nvm.Of(image)
}

func TestOpenOfFewLines(t *testing.T) { // P5.4: words with a right sum, of a shape that is none, or of other lines
	for lines := 1; lines <= 18; lines++ {
		what := strconv.Itoa(lines) + " lines"
		for slabs := range 3 {
			for _, data := range []int{128, 192, 256} {
				opens(t, what, withHeader(lines, header(Shape{lines, slabs, 128, data})), Shape{}, api.ErrCorrupt)
			}
		}
		opens(t, what+", a sum of nothing", withHeader(lines, header(Shape{})), Shape{}, api.ErrCorrupt)
		for _, s := range someShapes() {
			opens(t, what+", words of others", withHeader(lines, header(s)), Shape{}, api.ErrCorrupt)
		}
	}
}

func TestOpenOfOtherLines(t *testing.T) { // P5.4: words of each other shape, those of as many slabs with them
	for _, s := range someShapes() {
		for _, other := range allShapes() {
			right, e := s, api.OK
			if other != s {
				right, e = Shape{}, api.ErrCorrupt
			}
			d := withHeader(s.Lines, header(other))
			got, wrong := Open(d)
			want(t, strconv.Itoa(s.Lines)+" lines with words of "+strconv.Itoa(other.Lines), got, wrong, right, e)
		}
	}
}

func TestOpenOfTurnedWords(t *testing.T) { // P5.4: any one bit, and any one word
	for _, s := range someShapes() {
		for i := range 8 {
			was := header(s)[i]
			try := func(n uint64) {
				l := header(s)
				l[i] = n
				if n != was {
					opens(t, "word "+strconv.Itoa(i)+" as "+strconv.FormatUint(n, 16), withHeader(s.Lines, l), Shape{}, api.ErrCorrupt)
				}
			}
			for bit := range 64 {
				try(was ^ 1<<bit)
			}
			for _, n := range []uint64{0, 1, was + 1, was - 1, ^was, was << 8, was >> 8, was | was<<32, math.MaxUint64} {
				try(n)
			}
		}
	}
}

func TestOpenOfTurnedWordsWithTheirSum(t *testing.T) { // P5.4: words that are no shape's, though their sum is right
	for _, s := range someShapes() {
		for i := range 6 {
			for bit := range 64 {
				l := header(s)[:6]
				l[i] ^= 1 << bit
				opens(t, "word "+strconv.Itoa(i)+", bit "+strconv.Itoa(bit), withHeader(s.Lines, summed(l...)), Shape{}, api.ErrCorrupt)
			}
		}
		for _, x := range turned(s) {
			opens(t, "a turned shape", withHeader(s.Lines, header(x)), Shape{}, api.ErrCorrupt)
		}
	}
}

func TestWordsAreNewMemory(t *testing.T) { // R6
	for _, s := range someShapes() {
		a, b := Words(s), Words(s)
		a = a[:cap(a)]
		for i := range a {
			a[i] = 77
		}
		if !slices.Equal(b, header(s)) || !slices.Equal(Words(s), header(s)) {
			t.Errorf("Words(%v): two answers share memory", s)
		}
		d := nvm.New(s.Lines)
		isFormatted(t, "behind words that were written over", d, s)
		opens(t, "behind words that were written over", d, s, api.OK)
	}
}

func TestDevicesAreApart(t *testing.T) { // R4: what one device has, or is, is not told of another
	a, b := nvm.New(19), nvm.New(35)
	b.Stop(3)
	isFormatted(t, "the one", a, Shape{19, 1, 128, 192})
	s, e := Format(b)
	want(t, "the one that goes down, Format", s, e, Shape{}, api.ErrDown)
	opens(t, "the one", a, Shape{19, 1, 128, 192}, api.OK)
	opens(t, "the one that is down", b, Shape{}, api.ErrDown)
	b.Crash(nil)
	opens(t, "the one that is up again", b, Shape{}, api.ErrCorrupt)
	isFormatted(t, "the other one", b, Shape{35, 2, 128, 192})
	a.Store(0, 0)
	opens(t, "the other one", b, Shape{35, 2, 128, 192}, api.OK)
	opens(t, "the one without its name", a, Shape{}, api.ErrCorrupt)
}

func TestTheExample(t *testing.T) { // the chapter's example
	if s, ok := Of(19); !ok || s.Slabs != 1 || s.Table != 128 || s.Data != 192 {
		t.Errorf("Of(19): %v, %v", s, ok)
	}
}
