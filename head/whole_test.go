package head

import (
	"bytes"
	"strconv"
	"testing"

	"stillroom/api"
	"stillroom/nvm"
)

// byHand does what the words say of Format, step by step on the device itself.
func byHand(d *nvm.Dev, s Shape) api.Errno {
	for at := 0; at < 64*s.Lines; at += 8 {
		if e := d.Store(at, 0); e != api.OK {
			return e
		}
	}
	for line := range s.Lines {
		if e := d.Flush(64 * line); e != api.OK {
			return e
		}
	}
	if e := d.Fence(); e != api.OK {
		return e
	}
	for i, n := range header(s) {
		if e := d.Store(8*i, n); e != api.OK {
			return e
		}
	}
	if e := d.Flush(0); e != api.OK {
		return e
	}
	return d.Fence()
}

// starts are the devices whose Format goes down; of those that were formatted ahead of it, it may well open as that.
func starts(lines int) map[string]func() *nvm.Dev {
	l := map[string]func() *nvm.Dev{
		"a new one":                           func() *nvm.Dev { return nvm.New(lines) },
		"one with words":                      func() *nvm.Dev { return nvm.Of(pattern(lines)) },
		"one with words that are not durable": func() *nvm.Dev { return unsure(lines) },
		"one that was formatted, and used": func() *nvm.Dev {
			d := nvm.New(lines)
			Format(d)
			d.Store(Slot, 7)
			d.Store(192, 8)
			return d
		},
	}
	for what, d := range devices(lines) {
		if _, there := l[what]; !there {
			image := d.Image()
			l[what] = func() *nvm.Dev { return nvm.Of(image) }
		}
	}
	return l
}

func TestFormatGoesDown(t *testing.T) { // P5.3, P5.5: at each step of it, and behind crashes, as by hand
	for _, s := range []Shape{{19, 1, 128, 192}, {35, 2, 128, 192}} {
		for what, start := range starts(s.Lines) {
			for stop := range 9*s.Lines + 14 {
				goesDown(t, what, start, s, stop)
			}
		}
	}
}

func TestFormatOfManyLinesGoesDown(t *testing.T) { // P5.3, P5.5: at its first steps, where a Fence is, and at its last ones
	s := Shape{1024, 63, 128, 640}
	for what, start := range starts(1024) {
		for _, stop := range []int{0, 1, 8191, 8192, 8193, 9216, 9217, 9218, 9224, 9225, 9226, 9227, 9228} {
			goesDown(t, what, start, s, stop)
		}
	}
}

// goesDown: a Format that goes down behind so many steps answers, and leaves behind crashes, what the same by hand does; what opens then is whole; and it can be formatted anew.
func goesDown(t *testing.T, what string, start func() *nvm.Dev, right Shape, stop int) {
	t.Helper()
	what = strconv.Itoa(right.Lines) + " lines, " + what + ", Stop(" + strconv.Itoa(stop) + ")"
	picks := manyPicks
	if right.Lines > 19 {
		picks = manyPicks[stop%11:][:4]
	}
	for _, picks := range picks {
		a, b := start(), start()
		a.Stop(stop)
		b.Stop(stop)
		s, e := Format(a)
		told := right
		wrong := byHand(b, right)
		if wrong != api.OK {
			told = Shape{}
		}
		want(t, what+", Format", s, e, told, wrong)
		if (e == api.OK) != (stop >= 9*right.Lines+11) {
			t.Fatalf("%s: error %d", what, e)
		}
		if stateOf(a) != stateOf(b) {
			t.Fatalf("%s: the device is not as by hand", what)
		}
		a.Crash(picks)
		b.Crash(picks)
		if stateOf(a) != stateOf(b) {
			t.Fatalf("%s, a crash with %v: the device is not as by hand", what, picks)
		}
		whole(t, what, a, right, e, stop)
	}
	d := start()
	d.Stop(stop)
	Format(d)
	d.Crash(manyPicks[stop%len(manyPicks)])
	isFormatted(t, what+", anew", d, right)
	opens(t, what+", anew", d, right, api.OK)
}

// whole: behind a crash it opens, with nothing of what was there, or is ErrCorrupt.
func whole(t *testing.T, what string, d *nvm.Dev, right Shape, told api.Errno, stop int) {
	t.Helper()
	s, e := Open(d)
	switch {
	case e == api.OK && s == right:
		// Ahead of the Fence of the Clear what opens is what was formatted before.
		if stop > 9*right.Lines && !bytes.Equal(d.Image(), formatted(right)) {
			t.Fatalf("%s: it opens with more than its first line", what)
		}
	case e != api.ErrCorrupt || s != (Shape{}) || told == api.OK:
		t.Fatalf("%s: Format %d, Open %v, error %d", what, told, s, e)
	}
}

func TestNobodysDeviceIsNeverHalfOpen(t *testing.T) { // P5.5: no crash in a Format opens one that was none's with its old words
	right := Shape{19, 1, 128, 192}
	opened, corrupt := 0, 0
	for stop := range 9*19 + 12 {
		for pick := range 20 {
			d := unsure(19)
			d.Stop(stop)
			_, told := Format(d)
			d.Crash(bytes.Repeat([]uint8{uint8(pick)}, 19))
			s, e := Open(d)
			switch {
			case e == api.OK && s == right && bytes.Equal(d.Image(), formatted(right)):
				opened++
			case e == api.ErrCorrupt && s == (Shape{}) && told != api.OK:
				corrupt++
			default:
				t.Fatalf("Stop(%d), pick %d: Format %d, Open %v, error %d", stop, pick, told, s, e)
			}
		}
	}
	if opened == 0 || corrupt == 0 {
		t.Errorf("%d opened, %d were corrupt: both have to be met", opened, corrupt)
	}
}

func TestDownBehindTheLastStep(t *testing.T) { // P5.5: OK counts, also if the device is down then
	for _, s := range someShapes() {
		for _, picks := range manyPicks {
			d := unsure(s.Lines)
			d.Stop(9*s.Lines + 11)
			got, e := Format(d)
			want(t, "Format", got, e, s, api.OK)
			opens(t, "down", d, Shape{}, api.ErrDown)
			got, e = Format(d)
			want(t, "another Format", got, e, Shape{}, api.ErrDown)
			d.Crash(picks)
			opens(t, "behind the crash", d, s, api.OK)
		}
	}
}

func TestWhatIsStoredBehind(t *testing.T) { // P5.5: the store's own words do not make it corrupt, whatever a crash leaves of them
	for _, s := range someShapes() {
		d := nvm.New(s.Lines)
		isFormatted(t, "a new one", d, s)
		for i, picks := range manyPicks {
			for _, at := range []int{Slot, Root, s.Table, s.Data, 64*s.Lines - 8} {
				if e := d.Store(at, uint64(i+1)); e != api.OK {
					t.Errorf("Store at %d: error %d", at, e)
				}
			}
			opens(t, "with words", d, s, api.OK)
			d.Crash(picks)
			opens(t, "with words, behind a crash", d, s, api.OK)
		}
	}
}
