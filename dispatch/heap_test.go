package dispatch

import (
	"slices"
	"testing"
)

// number is a thing of a heap.
type number int

func (n number) ahead(other number) bool { return n < other }

// TestHeap: whatever the order in which they come, they go rising.
func TestHeap(t *testing.T) {
	r := newSource(25)
	for range 500 {
		var h heap[number]
		var have []number
		for range r.Intn(60) {
			if x, is := h.first(); is != (len(have) > 0) || is && x != have[0] {
				t.Fatal(x, is, have)
			}
			if len(have) > 0 && r.Intn(3) == 0 {
				if x := h.pop(); x != have[0] {
					t.Fatal(x, have)
				}
				have = have[1:]
				continue
			}
			x := number(r.Intn(20))
			h.push(x)
			have = append(have, x)
			slices.Sort(have)
			if got := slices.Sorted(h.each()); !slices.Equal(got, have) {
				t.Fatal(got, have)
			}
		}
	}
}

// TestHeapTaken: those that are taken go, no others, and what is pushed meanwhile is taken in its turn.
func TestHeapTaken(t *testing.T) {
	var h heap[number]
	for _, x := range []number{5, 1, 9, 3, 7} {
		h.push(x)
	}
	low := func(x number) bool { return x < 6 }
	var got []number
	for x := range h.taken(low) {
		got = append(got, x)
		if x == 1 {
			h.push(2)
			h.push(8)
		}
		if x == 3 {
			break
		}
	}
	if !slices.Equal(got, []number{1, 2, 3}) {
		t.Error(got)
	}
	if got := slices.Sorted(h.each()); !slices.Equal(got, []number{5, 7, 8, 9}) {
		t.Error(got)
	}
	if got := slices.Collect(h.taken(low)); !slices.Equal(got, []number{5}) {
		t.Error(got)
	}
}
