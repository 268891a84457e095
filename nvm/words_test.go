package nvm

import (
	"bytes"
	"encoding/binary"
	"slices"
	"strconv"
	"testing"

	"stillroom/api"
)

// slow is a device as the chapter's words tell it: each content of a line is written out.
type slow struct {
	lines  []slowLine
	down   bool
	counts bool // a Stop does
	after  int
	steps  int
}

type slowLine struct {
	contents [][]byte
	marked   bool
	mark     int
	past     [][]byte // all that it ever was since the last crash
	sure     int      // its number in past at the last Flush that a Fence followed
	flushed  int      // and at the last Flush, -1: none since the last Fence
}

func newSlow(image []byte) *slow {
	s := &slow{}
	for ; len(image) > 0; image = image[64:] {
		first := slices.Clone(image[:64])
		s.lines = append(s.lines, slowLine{contents: [][]byte{first}, past: [][]byte{first}, flushed: -1})
	}
	return s
}

func (l *slowLine) now() []byte { return l.contents[len(l.contents)-1] }

func (s *slow) wrong(off, size int) api.Errno {
	if s.down {
		return api.ErrDown
	}
	if off < 0 || off%size != 0 || off > 64*len(s.lines)-size {
		return api.ErrOut
	}
	return api.OK
}

func (s *slow) done() api.Errno {
	s.steps++
	if s.counts {
		s.after--
		s.down = s.after == 0
	}
	return api.OK
}

func (s *slow) load(off int) (uint64, api.Errno) {
	if e := s.wrong(off, 8); e != api.OK {
		return 0, e
	}
	return binary.LittleEndian.Uint64(s.lines[off/64].now()[off%64:]), api.OK
}

func (s *slow) store(off int, n uint64) api.Errno {
	if e := s.wrong(off, 8); e != api.OK {
		return e
	}
	l := &s.lines[off/64]
	next := slices.Clone(l.now())
	binary.LittleEndian.PutUint64(next[off%64:], n)
	if !bytes.Equal(next, l.now()) {
		l.contents = append(l.contents, next)
		l.past = append(l.past, next)
	}
	return s.done()
}

func (s *slow) flush(off int) api.Errno {
	if e := s.wrong(off, 1); e != api.OK {
		return e
	}
	l := &s.lines[off/64]
	l.marked, l.mark = true, len(l.contents)-1
	l.flushed = len(l.past) - 1
	return s.done()
}

func (s *slow) fence() api.Errno {
	if s.down {
		return api.ErrDown
	}
	for i := range s.lines {
		l := &s.lines[i]
		if l.marked {
			l.contents, l.marked = l.contents[l.mark:], false
		}
		if l.flushed >= 0 {
			l.sure, l.flushed = l.flushed, -1
		}
	}
	return s.done()
}

func (s *slow) stop(after int) {
	if !s.down {
		s.counts, s.after, s.down = true, after, after <= 0
	}
}

func (s *slow) crash(picks []uint8) {
	s.down, s.counts = false, false
	for i := range s.lines {
		l := &s.lines[i]
		pick := 0
		if len(l.contents) > 1 && len(picks) > 0 {
			pick, picks = int(picks[0]), picks[1:]
		}
		left := l.contents[pick%len(l.contents)]
		*l = slowLine{contents: [][]byte{left}, past: [][]byte{left}, flushed: -1}
	}
}

// act is a call of a device; kind is the first letter of its name (F is Flush, f is Fence).
type act struct {
	kind byte
	off  int
	n    uint64
}

func (a act) String() string {
	return string(a.kind) + strconv.Itoa(a.off) + "," + strconv.FormatUint(a.n, 16)
}

// do: the answers of the device, and of the slow one.
func (a act) do(d *Dev, s *slow) (api.Errno, api.Errno) {
	switch a.kind {
	case 'S':
		return d.Store(a.off, a.n), s.store(a.off, a.n)
	case 'F':
		return d.Flush(a.off), s.flush(a.off)
	case 'f':
		return d.Fence(), s.fence()
	case 's':
		d.Stop(a.off)
		s.stop(a.off)
	case 'C':
		picks := binary.LittleEndian.AppendUint64(nil, a.n)[:a.off&7]
		d.Crash(picks)
		s.crash(picks)
	}
	return api.OK, api.OK
}

// differs: what tells the device from the slow one, "" if nothing does.
func differs(d *Dev, s *slow) string {
	var image []byte
	for i := range s.lines {
		image = append(image, s.lines[i].now()...)
		if d.May(i) != len(s.lines[i].contents) {
			return "May(" + strconv.Itoa(i) + "): " + strconv.Itoa(d.May(i))
		}
	}
	if !bytes.Equal(d.Image(), image) {
		return "Image"
	}
	if d.Steps() != s.steps || d.Size() != len(image) {
		return "Steps, or Size"
	}
	for off := -8; off <= len(image); off += 8 {
		n, e := d.Load(off)
		if right, wrong := s.load(off); n != right || e != wrong {
			return "Load at " + strconv.Itoa(off)
		}
	}
	return ""
}

// run: both devices behind some acts; ends the test where they differ.
func run(t *testing.T, image []byte, acts []act) (*Dev, *slow) {
	t.Helper()
	d, s := Of(image), newSlow(image)
	for i, a := range acts {
		if e, right := a.do(d, s); e != right {
			t.Fatalf("%v: error %d, not %d", acts[:i+1], e, right)
		}
	}
	if what := differs(d, s); what != "" {
		t.Fatalf("%v: %s", acts, what)
	}
	return d, s
}

// keepsOrder: what P3.7 says of a line: a crash leaves what it was at its last Flush that a Fence followed, or something behind that.
func keepsOrder(d *Dev, ahead *slow) bool {
	image := d.Image()
	for i := range ahead.lines {
		l := &ahead.lines[i]
		if !slices.ContainsFunc(l.past[l.sure:], func(b []byte) bool { return bytes.Equal(b, image[64*i:64*i+64]) }) {
			return false
		}
	}
	return true
}

// crashes: all that a crash may leave behind some acts is what the slow one leaves, in order, and it is up.
func crashes(t *testing.T, image []byte, acts []act) {
	t.Helper()
	_, s := run(t, image, acts)
	first, second := len(s.lines[0].contents), len(s.lines[1].contents)
	for a := range first {
		for b := range second {
			var picks []uint8
			if first > 1 {
				picks = append(picks, uint8(a))
			}
			if second > 1 {
				picks = append(picks, uint8(b))
			}
			d, s := run(t, image, acts)
			_, ahead := run(t, image, acts)
			d.Crash(picks)
			s.crash(picks)
			if what := differs(d, s); what != "" || !keepsOrder(d, ahead) {
				t.Fatalf("%v, crash with %v: %s, in order: %v", acts, picks, what, keepsOrder(d, ahead))
			}
		}
	}
}

func TestAllShortRuns(t *testing.T) { // P3.2 to P3.7: each run of up to five calls, with each crash behind it
	all := []act{{'S', 0, 1}, {'S', 0, 2}, {'S', 8, 0}, {'S', 120, 3}, {'F', 8, 0}, {'F', 127, 0}, {'f', 0, 0}, {'s', 2, 0}, {'C', 1, 1}}
	image := make([]byte, 128)
	image[8] = 9
	var grow func(acts []act)
	grow = func(acts []act) {
		crashes(t, image, acts)
		if len(acts) == 5 {
			return
		}
		for _, a := range all {
			grow(append(slices.Clone(acts), a))
		}
	}
	grow(nil)
}

// numbers: a row that is the same in each run.
type numbers uint64

func (r *numbers) below(many int) int {
	*r = *r*6364136223846793005 + 1442695040888963407
	return int(uint64(*r) >> 33 % uint64(many))
}

// anyAct: mostly steps that are done, now and then one outside, a Stop, or a Crash.
func anyAct(r *numbers, lines int) act {
	off := 8 * r.below(8*lines)
	switch kind := r.below(40); {
	case kind < 20:
		return act{'S', off, uint64(r.below(3))}
	case kind < 28:
		return act{'F', off + r.below(8), 0}
	case kind < 35:
		return act{'f', 0, 0}
	case kind == 35:
		return act{'S', off - 64 + r.below(3) - 1, 1}
	case kind == 36:
		return act{'F', 64*lines - 2 + r.below(4), 0}
	case kind == 37:
		return act{'s', r.below(30) - 2, 0}
	}
	return act{'C', r.below(8), uint64(r.below(1<<30))<<30 + uint64(r.below(1<<30))}
}

func TestLongRuns(t *testing.T) { // P3.2 to P3.7: many calls, compared at each
	for seed := range 60 {
		r := numbers(seed)
		lines := 1 + r.below(4)
		image := pattern(64 * lines)
		d, s := Of(image), newSlow(image)
		var acts []act
		for range 400 {
			a := anyAct(&r, lines)
			acts = append(acts, a)
			e, right := a.do(d, s)
			if what := differs(d, s); what != "" || e != right {
				t.Fatalf("%v: %s, error %d, not %d", acts, what, e, right)
			}
		}
	}
}

func TestLinesDoNotHangOnOneAnother(t *testing.T) { // P3.7: each line is as it were if the others had nothing but Fences
	for seed := range 40 {
		r := numbers(seed)
		const lines = 4
		var acts []act
		for range 60 {
			if a := anyAct(&r, lines); a.kind == 'S' || a.kind == 'F' || a.kind == 'f' {
				acts = append(acts, a)
			}
		}
		for line := range lines {
			own := slices.DeleteFunc(slices.Clone(acts), func(a act) bool { return a.kind != 'f' && a.off/64 != line })
			together, _ := run(t, pattern(64*lines), acts)
			alone, _ := run(t, pattern(64*lines), own)
			if together.May(line) != alone.May(line) {
				t.Fatalf("line %d of %v: %d contents, alone %d", line, acts, together.May(line), alone.May(line))
			}
			for pick := range alone.May(line) {
				together, _ := run(t, pattern(64*lines), acts)
				alone, _ := run(t, pattern(64*lines), own)
				together.Crash(picksOf(together, line, pick))
				alone.Crash(picksOf(alone, line, pick))
				if a, b := together.Image()[64*line:64*line+64], alone.Image()[64*line:64*line+64]; !bytes.Equal(a, b) {
					t.Fatalf("line %d of %v, pick %d: %x, alone %x", line, acts, pick, a, b)
				}
			}
		}
	}
}

// picksOf: picks of which that of a line is a number, the others another one.
func picksOf(d *Dev, line, pick int) []uint8 {
	var picks []uint8
	for i := range d.Size() / 64 {
		if d.May(i) < 2 {
			continue
		}
		if i == line {
			picks = append(picks, uint8(pick))
		} else {
			picks = append(picks, uint8(pick+i))
		}
	}
	return picks
}
