package pool

import (
	"maps"
	"slices"
	"strconv"
	"testing"

	"stillroom/api"
	"stillroom/head"
	"stillroom/nvm"
)

// poolByHand is a pool as the chapter's words tell it, on a device of its own: which blocks are taken, and reserved, by places, with their classes.
type poolByHand struct {
	d           *nvm.Dev
	s           head.Shape
	taken, held map[int]int
}

// byHand: the pool of a device, by its table.
func byHand(d *nvm.Dev) *poolByHand {
	s, _ := head.Of(d.Size() / 64)
	h := &poolByHand{d, s, map[int]int{}, map[int]int{}}
	for number := range s.Slabs {
		w, _ := d.Load(s.Table + 8*number)
		for at := range 16 {
			if class := int(w / 65536); w>>at%2 == 1 {
				h.taken[s.Data+1024*number+at*bytesOf(class)] = class
			}
		}
	}
	return h
}

// bytesOf: how many a block of a class has.
func bytesOf(class int) int {
	return []int{0, 64, 256}[class]
}

// used: which blocks of a slab are taken, or reserved.
func (h *poolByHand) used(number int) map[int]int {
	l := map[int]int{}
	for _, from := range []map[int]int{h.taken, h.held} {
		for off, class := range from {
			if (off-h.s.Data)/1024 == number {
				l[off] = class
			}
		}
	}
	return l
}

// reserve says P7.2.
func (h *poolByHand) reserve(class int) (int, api.Errno) {
	if class != 1 && class != 2 {
		return 0, api.ErrArg
	}
	empty := -1
	for number := range h.s.Slabs {
		used := h.used(number)
		if len(used) == 0 && empty < 0 {
			empty = number
		}
		if !slices.Contains(slices.Collect(maps.Values(used)), class) {
			continue
		}
		for off := h.s.Data + 1024*number; off < h.s.Data+1024*(number+1); off += bytesOf(class) {
			if used[off] == 0 {
				h.held[off] = class
				return off, api.OK
			}
		}
	}
	if empty < 0 {
		return 0, api.ErrFull
	}
	h.held[h.s.Data+1024*empty] = class
	return h.s.Data + 1024*empty, api.OK
}

// put stores a slab's word, as these blocks tell it, and does what sure.Put does.
func (h *poolByHand) put(number int, taken map[int]int) api.Errno {
	w := uint64(0)
	for off, class := range taken {
		if (off-h.s.Data)/1024 == number {
			w |= uint64(class)<<16 | 1<<((off-h.s.Data)%1024/bytesOf(class))
		}
	}
	at := h.s.Table + 8*number
	if e := h.d.Store(at, w); e != api.OK {
		return e
	}
	if e := h.d.Flush(at); e != api.OK {
		return e
	}
	return h.d.Fence()
}

// take says P7.3.
func (h *poolByHand) take(off int) api.Errno {
	if h.held[off] == 0 {
		return api.ErrNone
	}
	taken := maps.Clone(h.taken)
	taken[off] = h.held[off]
	if e := h.put((off-h.s.Data)/1024, taken); e != api.OK {
		return e
	}
	h.taken = taken
	delete(h.held, off)
	return api.OK
}

// drop says P7.4.
func (h *poolByHand) drop(off int) api.Errno {
	if h.held[off] != 0 {
		delete(h.held, off)
		return api.OK
	}
	if h.taken[off] == 0 {
		return api.ErrNone
	}
	taken := maps.Clone(h.taken)
	delete(taken, off)
	if e := h.put((off-h.s.Data)/1024, taken); e != api.OK {
		return e
	}
	h.taken = taken
	return api.OK
}

// all says P7.5.
func (h *poolByHand) all() []int {
	return slices.Sorted(maps.Keys(h.taken))
}

// call is one call of a pool, or of its device.
type call struct {
	name string
	arg  int
}

// both is a pool with its device, and the same by hand.
type both struct {
	d *nvm.Dev
	p *Pool
	h *poolByHand
}

// bothOf: of devices with the same bytes.
func bothOf(t *testing.T, image []byte) both {
	t.Helper()
	d := nvm.Of(image)
	return both{d, opened(t, d), byHand(nvm.Of(image))}
}

// pick: picks that a number tells.
func pick(n int) []uint8 {
	return []uint8{uint8(n), uint8(n / 2), uint8(n / 3)}
}

// does: fails unless a call answers what it does by hand.
func (b both) does(t *testing.T, c call) {
	t.Helper()
	var off, right int
	var e, wrong api.Errno
	switch c.name {
	case "Reserve":
		off, e = b.p.Reserve(c.arg)
		right, wrong = b.h.reserve(c.arg)
	case "Take":
		e, wrong = b.p.Take(c.arg), b.h.take(c.arg)
	case "Drop":
		e, wrong = b.p.Drop(c.arg), b.h.drop(c.arg)
	case "Stop":
		b.d.Stop(c.arg)
		b.h.d.Stop(c.arg)
	case "Crash":
		b.d.Crash(pick(c.arg))
		b.h.d.Crash(pick(c.arg))
	}
	if off != right || e != wrong {
		t.Fatalf("%v: %d, error %d, not %d, %d", c, off, e, right, wrong)
	}
}

// agree: fails unless the pool tells what it does by hand, and the devices are alike.
func (b both) agree(t *testing.T, what any) {
	t.Helper()
	if b.p.Shape() != b.h.s || b.p.Held() != len(b.h.held) || !slices.Equal(b.p.All(), b.h.all()) {
		t.Fatalf("%v: %v, %d are reserved, %v taken, not %v, %d, %v", what, b.p.Shape(), b.p.Held(), b.p.All(), b.h.s, len(b.h.held), b.h.all())
	}
	for off := range b.h.taken {
		classes(t, b.p, b.h.taken[off], off)
	}
	for off := range b.h.held {
		classes(t, b.p, 0, off)
	}
	if stateOf(b.d) != stateOf(b.h.d) {
		t.Fatalf("%v: the device is not as by hand", what)
	}
}

// apart: fails unless what is taken or reserved stands within the slabs, and does not meet (by hand, with which the pool agrees).
func (b both) apart(t *testing.T) {
	t.Helper()
	owner := map[int]int{}
	for _, from := range []map[int]int{b.h.taken, b.h.held} {
		for off, class := range from {
			for at := off; at < off+bytesOf(class); at += 64 {
				if at < b.h.s.Data || at+64 > b.h.s.Data+1024*b.h.s.Slabs || owner[at] != 0 {
					t.Fatalf("the block %d is outside, or meets the block %d", off, owner[at])
				}
				owner[at] = off
			}
		}
	}
}

func TestEachRunOfCalls(t *testing.T) { // P7.2 to P7.6: all runs of a few calls on one slab, up and down, as by hand
	image := fresh(t, 19).Image()
	calls := []call{{"Reserve", 1}, {"Reserve", 2}, {"Take", 192}, {"Take", 256}, {"Take", 448}, {"Drop", 192}, {"Drop", 256}, {"Drop", 448}, {"Stop", 1}, {"Stop", 2}, {"Crash", 0}, {"Crash", 1}}
	runs := [][]call{nil}
	for range 4 {
		var longer [][]call
		for _, run := range runs {
			for _, c := range calls {
				longer = append(longer, append(slices.Clone(run), c))
			}
		}
		runs = longer
		for _, run := range runs {
			b := bothOf(t, image)
			for _, c := range run {
				b.does(t, c)
			}
			b.agree(t, run)
		}
	}
}

func TestEachRunOfCallsBehindSome(t *testing.T) { // P7.2 to P7.6: all runs of a few calls on two slabs where some blocks are taken, and some reserved
	d := withWords(t, 35, 0x17fff, 0x20007)
	image := d.Image()
	calls := []call{{"Reserve", 1}, {"Reserve", 2}, {"Take", 1152}, {"Take", 1984}, {"Drop", 192}, {"Drop", 1152}, {"Drop", 1216}, {"Drop", 1984}, {"Stop", 0}, {"Stop", 2}, {"Crash", 1}}
	runs := [][]call{nil}
	for range 3 {
		var longer [][]call
		for _, run := range runs {
			for _, c := range calls {
				longer = append(longer, append(slices.Clone(run), c))
			}
		}
		runs = longer
		for _, run := range runs {
			for _, first := range []call{{"Reserve", 1}, {"Reserve", 2}, {"Drop", 448}} {
				b := bothOf(t, image)
				b.does(t, first)
				for _, c := range run {
					b.does(t, c)
				}
				b.agree(t, run)
			}
		}
	}
}

// turns are numbers that hop about, always the same ones.
type turns uint64

// below: the next one, from 0 on.
func (n *turns) below(many int) int {
	*n = *n*6364136223846793005 + 1442695040888963407
	return int(uint64(*n)>>33) % many
}

// anyPlace: one that is reserved, one that is taken, or one that is likely neither.
func (b both) anyPlace(n *turns) int {
	from := slices.Sorted(maps.Keys(b.h.held))
	switch n.below(8) {
	case 0:
		return n.below(b.h.d.Size() + 64)
	case 1:
		return b.h.s.Data + 64*n.below(16*b.h.s.Slabs)
	case 2, 3, 4:
		from = b.h.all()
	}
	if len(from) == 0 {
		return b.h.s.Data
	}
	return from[n.below(len(from))]
}

// anyCall: Reserve and Take more often than Drop as long as a pool fills, less often when it empties.
func (b both) anyCall(n *turns, fills bool) call {
	reserve := 3
	if fills {
		reserve = 8
	}
	switch k := n.below(20); {
	case k < reserve:
		return call{"Reserve", 1 + n.below(2)}
	case k < 13:
		return call{"Take", b.anyPlace(n)}
	case k < 18:
		return call{"Drop", b.anyPlace(n)}
	case k < 19:
		return call{"Stop", n.below(9)}
	}
	return call{"Crash", n.below(12)}
}

func TestLongRuns(t *testing.T) { // P7.2 to P7.7: long runs of calls, as by hand, while pools fill and empty, devices go down and pools are opened anew
	for _, c := range []struct{ lines, calls int }{{19, 6000}, {35, 6000}, {51, 6000}, {148, 3000}, {300, 1500}, {1024, 1200}} {
		n := turns(c.lines)
		b := bothOf(t, fresh(t, c.lines).Image())
		for i := range c.calls {
			next := b.anyCall(&n, i/400%2 == 0)
			b.does(t, next)
			if i%3 == 0 || c.lines < 100 {
				b.agree(t, strconv.Itoa(c.lines)+" lines, call "+strconv.Itoa(i)+", "+next.name+" of "+strconv.Itoa(next.arg))
				b.apart(t)
			}
			if i%250 == 249 {
				b.does(t, call{"Crash", i})
				b = both{b.d, opened(t, b.d), byHand(b.h.d)}
				b.agree(t, "opened anew")
				b.apart(t)
			}
		}
	}
}

func TestRunsMeetAll(t *testing.T) { // that the long runs are worth it: each error, and blocks of both classes, come up in them
	n := turns(35)
	b := bothOf(t, fresh(t, 35).Image())
	met := map[string]int{}
	for i := range 6000 {
		c := b.anyCall(&n, i/400%2 == 0)
		e := api.OK
		switch c.name {
		case "Reserve":
			_, e = b.h.reserve(c.arg)
		case "Take":
			e = b.h.take(c.arg)
		case "Drop":
			e = b.h.drop(c.arg)
		case "Stop":
			b.h.d.Stop(c.arg)
		case "Crash":
			b.h.d.Crash(pick(c.arg))
		}
		met[c.name+" "+strconv.Itoa(int(e))]++
		for _, class := range b.h.taken {
			met["class "+strconv.Itoa(class)]++
		}
	}
	for _, what := range []string{"Reserve 0", "Reserve 6", "Take 0", "Take 7", "Take 12", "Drop 0", "Drop 7", "Drop 12", "class 1", "class 2"} {
		if met[what] < 20 {
			t.Errorf("%s: %d times", what, met[what])
		}
	}
}
