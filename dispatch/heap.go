package dispatch

import (
	"iter"
	"slices"
)

// ordered are things of which one is ahead of another.
type ordered[T any] interface {
	ahead(other T) bool
}

// heap has things, of which the first one is at hand.
type heap[T ordered[T]] struct {
	all []T // the one at i is not ahead of the one at (i - 1) / 2
}

func (h *heap[T]) push(x T) {
	h.all = append(h.all, x)
	at := len(h.all) - 1
	for at > 0 {
		up := (at - 1) / 2
		if !h.all[at].ahead(h.all[up]) {
			return
		}
		h.swap(at, up)
		at = up
	}
}

// pop takes the first one away. There must be one.
func (h *heap[T]) pop() T {
	first, last := h.all[0], len(h.all)-1
	h.swap(0, last)
	h.all = slices.Delete(h.all, last, last+1)
	at := 0
	for {
		next := h.firstOf(at, 2*at+1, 2*at+2)
		if next == at {
			return first
		}
		h.swap(at, next)
		at = next
	}
}

// firstOf answers which one of these places has the one that is ahead; those beyond the end have none.
func (h *heap[T]) firstOf(at int, others ...int) int {
	for _, other := range others {
		if other < len(h.all) && h.all[other].ahead(h.all[at]) {
			at = other
		}
	}
	return at
}

func (h *heap[T]) swap(a, b int) {
	h.all[a], h.all[b] = h.all[b], h.all[a]
}

// first answers the first one, if there is one.
func (h *heap[T]) first() (T, bool) {
	if len(h.all) == 0 {
		var none T
		return none, false
	}
	return h.all[0], true
}

// each tells all; but for the first one they stand in no order that is of use.
func (h *heap[T]) each() iter.Seq[T] {
	return slices.Values(h.all)
}

// taken takes away, and tells, the first one again and again, as long as it goes; others may be pushed meanwhile.
func (h *heap[T]) taken(goes func(T) bool) iter.Seq[T] {
	return func(yield func(T) bool) {
		for len(h.all) > 0 && goes(h.all[0]) {
			if !yield(h.pop()) {
				return
			}
		}
	}
}
