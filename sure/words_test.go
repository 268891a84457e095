package sure

import (
	"bytes"
	"slices"
	"strconv"
	"testing"

	"stillroom/api"
	"stillroom/nvm"
)

// call is one of the package's calls; kind is the first letter of its name (A is PutAll).
type call struct {
	kind byte
	off  int
	l    []uint64
	many int
}

func (c call) String() string {
	return string(c.kind) + " at " + strconv.Itoa(c.off) + ", of " + strconv.Itoa(len(c.l)) + ", " + strconv.Itoa(c.many)
}

func (c call) do(d *nvm.Dev) ([]uint64, api.Errno) {
	switch c.kind {
	case 'P':
		return nil, Put(d, c.off, c.l[0])
	case 'A':
		return nil, PutAll(d, c.off, c.l)
	case 'C':
		return nil, Clear(d, c.off, c.many)
	}
	return Get(d, c.off, c.many)
}

// byHand does what the chapter's words say, on the device itself, from the place's check to the last step.
func (c call) byHand(d *nvm.Dev) ([]uint64, api.Errno) {
	switch c.kind {
	case 'P':
		return nil, steps(d, []int{c.off}, c.l, []int{c.off})
	case 'A':
		return nil, allByHand(d, c.off, c.l)
	case 'C':
		if c.many < 0 || c.many > 1024 || c.off%64 != 0 {
			return nil, api.ErrArg
		}
		return nil, allByHand(d, c.off, make([]uint64, 8*c.many))
	}
	if e := wrong(d, c.off, c.many); e != api.OK {
		return nil, e
	}
	l := []uint64{}
	for i := range c.many {
		n, e := d.Load(c.off + 8*i)
		if e != api.OK {
			return nil, e
		}
		l = append(l, n)
	}
	return l, api.OK
}

func allByHand(d *nvm.Dev, off int, l []uint64) api.Errno {
	if e := wrong(d, off, len(l)); e != api.OK {
		return e
	}
	var at, lines []int
	for i := range l {
		at = append(at, off+8*i)
	}
	for line := 0; line < d.Size(); line += 64 {
		if slices.ContainsFunc(at, func(at int) bool { return at >= line && at < line+64 }) {
			lines = append(lines, line)
		}
	}
	return steps(d, at, l, lines)
}

func wrong(d *nvm.Dev, off, many int) api.Errno {
	if d.Size() == 0 {
		return api.ErrNil
	}
	if !fits(d.Size(), off, many) {
		return api.ErrOut
	}
	return api.OK
}

// steps: words at their places, then lines, then a Fence, as far as the first error.
func steps(d *nvm.Dev, at []int, l []uint64, lines []int) api.Errno {
	for i, at := range at {
		if e := d.Store(at, l[i]); e != api.OK {
			return e
		}
	}
	for _, line := range lines {
		if e := d.Flush(line); e != api.OK {
			return e
		}
	}
	return d.Fence()
}

// starts are the devices that calls meet: new ones, one with words that are not durable, one behind a crash, none.
func starts() []func() *nvm.Dev {
	return []func() *nvm.Dev{
		func() *nvm.Dev { return nvm.New(3) },
		func() *nvm.Dev { return nvm.Of(pattern(192)) },
		func() *nvm.Dev { return unsure(192) },
		func() *nvm.Dev { return unsure(64) },
		func() *nvm.Dev {
			d := unsure(128)
			d.Stop(0)
			d.Crash([]uint8{3, 4})
			return d
		},
		func() *nvm.Dev { return nil },
		func() *nvm.Dev { return new(nvm.Dev) },
	}
}

// never is a Stop that none of these calls comes to.
const never = 1 << 20

// both: a device behind a call, and one behind what the words say, of one start, both with a Stop; ends the test where they differ.
func both(t *testing.T, start func() *nvm.Dev, stop int, c call) (*nvm.Dev, *nvm.Dev) {
	t.Helper()
	a, b := start(), start()
	a.Stop(stop)
	b.Stop(stop)
	l, e := c.do(a)
	right, wrong := c.byHand(b)
	if e != wrong || !slices.Equal(l, right) {
		t.Fatalf("%v, Stop(%d): %x, error %d, not %x, %d", c, stop, l, e, right, wrong)
	}
	if what := differs(a, b); what != "" {
		t.Fatalf("%v, Stop(%d): %s", c, stop, what)
	}
	return a, b
}

// differs: what tells one device from the other, "" if nothing does.
func differs(a, b *nvm.Dev) string {
	if !bytes.Equal(a.Image(), b.Image()) {
		return "Image"
	}
	if a.Steps() != b.Steps() {
		return "Steps: " + strconv.Itoa(a.Steps()) + ", not " + strconv.Itoa(b.Steps())
	}
	for line := range b.Size() / 64 {
		if a.May(line) != b.May(line) {
			return "May(" + strconv.Itoa(line) + "): " + strconv.Itoa(a.May(line)) + ", not " + strconv.Itoa(b.May(line))
		}
	}
	_, e := a.Load(0)
	if _, right := b.Load(0); e != right {
		return "Load tells error " + strconv.Itoa(int(e))
	}
	return ""
}

// asWritten: a call is what the words say, at each step at which the device may go down, and behind each crash then.
func asWritten(t *testing.T, start func() *nvm.Dev, c call) {
	t.Helper()
	d := start()
	was := d.Steps()
	c.byHand(d)
	for stop := range d.Steps() - was + 3 {
		for _, picks := range manyPicks {
			a, b := both(t, start, stop, c)
			a.Crash(picks)
			b.Crash(picks)
			if what := differs(a, b); what != "" {
				t.Fatalf("%v, Stop(%d), a crash with %v: %s", c, stop, picks, what)
			}
		}
	}
	both(t, start, never, c)
}

func TestAsWritten(t *testing.T) { // P4.1 to P4.5: each call on each device, stopped at each step, and behind crashes
	for _, start := range starts() {
		size := start().Size()
		for off := -16; off <= size+16; off += 8 {
			asWritten(t, start, call{'P', off, []uint64{9}, 0})
			for _, many := range []int{0, 1, 2, 7, 8, 9, 16, 17, 24, 25} {
				asWritten(t, start, call{'A', off, numbered(many), 0})
				asWritten(t, start, call{'G', off, nil, many})
			}
		}
		for off := -128; off <= size+64; off += 32 {
			for lines := -1; lines <= 4; lines++ {
				asWritten(t, start, call{'C', off, nil, lines})
			}
		}
	}
}

func TestAsWrittenAtAllPlaces(t *testing.T) { // P4.1 to P4.4: those that are no word's with them, and those far off
	for _, start := range starts() {
		for _, off := range places(start().Size()) {
			both(t, start, never, call{'P', off, []uint64{9}, 0})
			for _, many := range []int{0, 1, 3, 9, 25} {
				both(t, start, never, call{'A', off, numbered(many), 0})
			}
			for _, many := range append([]int{0, 1, 3, 9, 25}, farCounts...) {
				both(t, start, never, call{'G', off, nil, many})
			}
			for _, lines := range []int{-64, -1, 0, 1, 2, 3, 4, 1023, 1024, 1025} {
				both(t, start, never, call{'C', off, nil, lines})
			}
		}
	}
}

func TestOneCallBehindTheOther(t *testing.T) { // P4.1 to P4.5, R4: rows of calls, steps and crashes, as by hand
	all := []call{
		{'P', 0, []uint64{1}, 0}, {'P', 56, []uint64{2}, 0}, {'P', 64, []uint64{1}, 0}, {'P', 128, []uint64{1}, 0},
		{'A', 56, []uint64{3, 4}, 0}, {'A', 128, nil, 0}, {'A', 120, []uint64{5, 6}, 0}, {'A', 0, []uint64{1, 2, 3}, 0},
		{'G', 48, nil, 4}, {'G', 0, nil, 17}, {'C', 64, nil, 1}, {'C', 0, nil, 2}, {'C', 0, nil, 3},
	}
	between := []func(*nvm.Dev){
		func(*nvm.Dev) {},
		func(d *nvm.Dev) { d.Store(0, 8); d.Store(64, 8) },
		func(d *nvm.Dev) { d.Store(0, 7); d.Flush(0); d.Store(8, 7) },
		func(d *nvm.Dev) { d.Stop(5) },
		func(d *nvm.Dev) { d.Crash([]uint8{1, 2}) },
	}
	for i, first := range all {
		for j, second := range all {
			for k := range len(between) * len(between) {
				a, b := unsure(128), unsure(128)
				for n, c := range []call{first, second, all[(i+j)%len(all)]} {
					step := between[(k+n*(k/len(between)))%len(between)]
					step(a)
					step(b)
					l, e := c.do(a)
					right, wrong := c.byHand(b)
					if what := differs(a, b); what != "" || e != wrong || !slices.Equal(l, right) {
						t.Fatalf("%v, %v, %v: %s, %x, error %d, not %x, %d", first, second, c, what, l, e, right, wrong)
					}
				}
			}
		}
	}
}
