package pool

import (
	"slices"
	"strconv"
	"testing"

	"stillroom/api"
	"stillroom/nvm"
)

// manyPicks are what crashes in these tests are handed: none, all 0, all 1, others.
var manyPicks = [][]uint8{nil, {0, 0, 0}, {1, 1, 1}, {2, 2, 2}, {3, 3}, {1, 0}, {0, 1}, {255, 255}, {254}}

func TestTakeGoesDown(t *testing.T) { // P7.3, P7.5, P7.7: at each of its steps; the pool knows nothing of what is left on the device
	for stop := range 5 {
		for _, picks := range manyPicks {
			d := fresh(t, 35)
			p := opened(t, d)
			reservesAll(t, p, 1, 192, 256, 320)
			takes(t, p, api.OK, 192)
			d.Stop(stop)
			e := p.Take(256)
			if (e == api.OK) != (stop >= 3) || e != api.OK && e != api.ErrDown {
				t.Fatalf("Stop(%d): Take: error %d", stop, e)
			}
			if e == api.OK {
				has(t, p, 1, 192, 256)
				takes(t, p, api.ErrNone, 256)
			} else {
				has(t, p, 2, 192)
				classes(t, p, 0, 256)
				takes(t, p, api.ErrDown, 256, 320)
				has(t, p, 2, 192)
			}
			takes(t, p, api.ErrNone, 192, 384, 1216, -1)
			d.Crash(picks)
			// nothing of the first Take is lost; the other one is there with OK, and otherwise as the pick says
			again := opened(t, d)
			classes(t, again, 1, 192)
			classes(t, again, 0, 320)
			there := again.Class(256) == 1
			stored := stop == 1 || stop == 2
			if last := len(picks) > 0 && picks[0]%2 == 1; there != (e == api.OK || stored && last) {
				t.Fatalf("Stop(%d), error %d, picks %v: 256 is taken: %v", stop, e, picks, there)
			}
			if e != api.OK {
				takes(t, p, api.OK, 256)
			}
			has(t, p, 1, 192, 256)
			words(t, d, 0x10003, 0)
		}
	}
}

func TestDropGoesDown(t *testing.T) { // P7.4, P7.5: at each of its steps
	for stop := range 5 {
		for _, picks := range manyPicks {
			d := withWords(t, 35, 0x10003)
			p := opened(t, d)
			reserves(t, p, 1, 320, api.OK)
			d.Stop(stop)
			e := p.Drop(256)
			if (e == api.OK) != (stop >= 3) || e != api.OK && e != api.ErrDown {
				t.Fatalf("Stop(%d): Drop: error %d", stop, e)
			}
			if e == api.OK {
				has(t, p, 1, 192)
				classes(t, p, 0, 256)
				drops(t, p, api.ErrNone, 256)
			} else {
				has(t, p, 1, 192, 256)
				classes(t, p, 1, 256)
				drops(t, p, api.ErrDown, 192, 256)
			}
			drops(t, p, api.ErrNone, 384, 1216, -1)
			d.Crash(picks)
			again := opened(t, d)
			classes(t, again, 1, 192)
			there := again.Class(256) == 1
			stored := stop == 1 || stop == 2
			if last := len(picks) > 0 && picks[0]%2 == 1; there != (stop == 0 || stored && !last) {
				t.Fatalf("Stop(%d), error %d, picks %v: 256 is taken: %v", stop, e, picks, there)
			}
			if e != api.OK {
				drops(t, p, api.OK, 256)
			}
			has(t, p, 1, 192)
			reserves(t, p, 1, 256, api.OK)
			words(t, d, 0x10001, 0)
		}
	}
}

func TestWhatIsReservedNeedsNoDevice(t *testing.T) { // P7.2, P7.4, P7.5, R2: on a device that is down
	d := withWords(t, 35, 0x10001)
	p := opened(t, d)
	d.Stop(0)
	before := stateOf(d)
	reservesAll(t, p, 1, 256, 320)
	reserves(t, p, 2, 1216, api.OK)
	reserves(t, p, 3, 0, api.ErrArg)
	drops(t, p, api.OK, 256)
	drops(t, p, api.ErrNone, 256)
	has(t, p, 2, 192)
	classes(t, p, 1, 192)
	takes(t, p, api.ErrDown, 320, 1216)
	drops(t, p, api.ErrDown, 192)
	drops(t, p, api.OK, 320, 1216)
	has(t, p, 0, 192)
	reservesAll(t, p, 2, every(1216, 256, 4)...)
	reserves(t, p, 2, 0, api.ErrFull)
	if stateOf(d) != before {
		t.Error("the device, that is down, is another one")
	}
}

func TestTakeBehindOneThatFailed(t *testing.T) { // P7.3: the word is as the pool knows it, not as the one that failed left it
	for stop := range 3 {
		for _, picks := range manyPicks {
			d := fresh(t, 35)
			p := opened(t, d)
			reservesAll(t, p, 1, 192, 256)
			reserves(t, p, 2, 1216, api.OK)
			d.Stop(stop)
			takes(t, p, api.ErrDown, 192)
			d.Crash(picks)
			takes(t, p, api.OK, 1216) // of another slab, in the same line of the table: that of 192 stays as it was left
			left := opened(t, d).Class(192)
			if stored := stop > 0 && len(picks) > 0 && picks[0]%2 == 1; (left == 1) != stored {
				t.Fatalf("Stop(%d), picks %v: Class(192): %d", stop, picks, left)
			}
			takes(t, p, api.OK, 256)
			words(t, d, 0x10002, 0x20001)
			has(t, p, 1, 256, 1216)
			has(t, opened(t, d), 0, 256, 1216)
			takes(t, p, api.OK, 192)
			words(t, d, 0x10003, 0x20001)
		}
	}
}

func TestOtherClassBehindATakeThatFailed(t *testing.T) { // P7.3, P7.4: what is reserved alone is dropped without a step, and its slab gets the other class
	for stop := range 3 {
		for _, picks := range manyPicks {
			d := fresh(t, 19)
			p := opened(t, d)
			reserves(t, p, 1, 192, api.OK)
			d.Stop(stop)
			takes(t, p, api.ErrDown, 192)
			d.Crash(picks)
			steps := d.Steps()
			drops(t, p, api.OK, 192)
			reserves(t, p, 2, 192, api.OK)
			if d.Steps() != steps {
				t.Fatalf("%d steps", d.Steps()-steps)
			}
			takes(t, p, api.OK, 192)
			words(t, d, 0x20001)
			has(t, opened(t, d), 0, 192)
			classes(t, p, 2, 192)
		}
	}
}

func TestTakeBehindADropThatFailed(t *testing.T) { // P7.4, P7.3: what could not be dropped is still taken, as the pool knows it
	for stop := range 3 {
		for _, picks := range manyPicks {
			d := withWords(t, 19, 0x20001)
			p := opened(t, d)
			reserves(t, p, 2, 448, api.OK)
			d.Stop(stop)
			drops(t, p, api.ErrDown, 192)
			d.Crash(picks)
			has(t, p, 1, 192)
			reserves(t, p, 2, 704, api.OK)
			takes(t, p, api.OK, 448)
			words(t, d, 0x20003)
			has(t, opened(t, d), 0, 192, 448)
			drops(t, p, api.OK, 192)
			words(t, d, 0x20002)
		}
	}
}

func TestDurable(t *testing.T) { // P7.7: a run of calls that goes down at each step: what is told with OK is there behind a crash, what is reserved alone is free, what is under way is either
	for _, lines := range []int{19, 35, 148} {
		for stop := 0; ; stop++ {
			went := false
			for _, picks := range manyPicks {
				d := fresh(t, lines)
				p := opened(t, d)
				d.Stop(stop)
				sure, open := untilDown(p)
				went = went || open != 0
				d.Crash(picks)
				isDurable(t, strconv.Itoa(lines)+" lines, Stop("+strconv.Itoa(stop)+")", d, sure, open)
			}
			if !went {
				break
			}
		}
	}
}

// untilDown reserves, takes and drops, till a call tells an error: which blocks are taken with OK, and of which one a call went down (0: of none).
func untilDown(p *Pool) ([]int, int) {
	var sure []int
	for i := range 24 {
		off, _ := p.Reserve(1 + i/12)
		if i%4 == 3 || off == 0 {
			continue // it is reserved alone
		}
		if p.Take(off) != api.OK {
			return sure, off
		}
		sure = append(sure, off)
		if i%3 == 1 {
			first := sure[0]
			sure = sure[1:]
			if p.Drop(first) != api.OK {
				return sure, first
			}
		}
	}
	return sure, 0
}

// isDurable: fails unless the blocks that are taken behind a crash are those that are sure, and perhaps that one.
func isDurable(t *testing.T, what string, d *nvm.Dev, sure []int, open int) {
	t.Helper()
	p := opened(t, d)
	slices.Sort(sure)
	all := p.All()
	if i := slices.Index(all, open); i >= 0 {
		all = slices.Delete(all, i, i+1)
	}
	if p.Held() != 0 || !slices.Equal(all, sure) {
		t.Fatalf("%s: %v are taken, %d reserved; sure are %v, open is %d", what, p.All(), p.Held(), sure, open)
	}
	// what was reserved alone is free: there is a block for each line that is not taken
	lines := 0
	for _, off := range p.All() {
		lines += bytesOf(p.Class(off)) / 64
	}
	for class := 1; class <= 2; class++ {
		for {
			off, e := p.Reserve(class)
			if e == api.ErrFull {
				break
			}
			if e != api.OK || slices.Contains(p.All(), off) {
				t.Fatalf("%s: Reserve: %d, error %d", what, off, e)
			}
			lines += bytesOf(class) / 64
		}
	}
	if lines != 16*p.Shape().Slabs {
		t.Fatalf("%s: %d lines are taken, or can be had", what, lines)
	}
}
