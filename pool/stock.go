package pool

import (
	"container/heap"
	"slices"

	"stillroom/api"
	"stillroom/slab"
)

// stock is a slab as the pool knows it: what is taken of it, and what is reserved, each as a slab's word. No block is both, and where both have a class it is one.
type stock struct {
	number      int
	taken, held uint64
}

// used: the blocks that are taken, or reserved, as a slab's word.
func (s *stock) used() uint64 {
	return s.taken | s.held
}

// class: that of the blocks that are taken, or reserved.
func (s *stock) class() int {
	return slab.Class(s.used())
}

// blockBytes: how many each of its blocks has.
func (s *stock) blockBytes() int {
	return slab.Lines(s.class()) * api.Line
}

// hold: one block more is reserved, the lowest that is free, of a class that fits.
func (s *stock) hold(class int) int {
	at := slab.Next(s.used(), class)
	s.held, _ = slab.Take(s.held, class, at)
	return at
}

// wish is the class that a slab with room is to have; None: nothing of it is taken, or reserved.
type wish int

// fits: is that slab one?
func (c wish) fits(s *stock) bool {
	class := s.class()
	return class == int(c) && (class == slab.None || slab.Next(s.used(), class) >= 0)
}

// queue is a heap of slabs: the one of the lowest number comes first. Some may have become full, or of another class, since they came in.
type queue []*stock

func (q queue) Len() int           { return len(q) }
func (q queue) Less(i, j int) bool { return q[i].number < q[j].number }
func (q queue) Swap(i, j int)      { q[i], q[j] = q[j], q[i] }
func (q *queue) Push(x any)        { *q = append(*q, x.(*stock)) }

// Pop: the last one; heap.Pop has put the first one there.
func (q *queue) Pop() any {
	last := len(*q) - 1
	s := (*q)[last]
	*q = (*q)[:last]
	return s
}

// add: a slab comes in, unless it is in it.
func (q *queue) add(s *stock) {
	if !slices.Contains(*q, s) {
		heap.Push(q, s)
	}
}

// next: the first slab that fits, taken out of it, as are those ahead of it, which do not; nil: there is none.
func (q *queue) next(fits func(*stock) bool) *stock {
	for q.Len() > 0 {
		if s := heap.Pop(q).(*stock); fits(s) {
			return s
		}
	}
	return nil
}
