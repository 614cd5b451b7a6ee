package labels

import (
	"iter"
	"slices"

	"tocsin/api"
)

// Ids are label sets with numbers, each found by its hash, then by itself.
type Ids struct {
	sets   map[int][]api.Label
	byHash map[uint64][]int
	last   int
}

// NewIds answers a numbering without sets.
func NewIds() *Ids {
	return &Ids{sets: map[int][]api.Label{}, byHash: map[uint64][]int{}}
}

// Put answers the number of a set, a new one, if it has none.
func (x *Ids) Put(l []api.Label) (int, api.Errno) {
	if x == nil {
		return 0, api.ErrNil
	}
	if e, _ := Right(l); e != api.OK {
		return 0, e
	}
	if id, there := x.Find(l); there {
		return id, api.OK
	}
	if len(x.sets) >= api.MaxSeries {
		return 0, api.ErrFull
	}
	return x.add(l), api.OK
}

// Find tells the number of a set that is there.
func (x *Ids) Find(l []api.Label) (int, bool) {
	if x == nil {
		return 0, false
	}
	for _, id := range x.byHash[Hash(l)] {
		// One hash may be that of several sets.
		if Compare(x.sets[id], l) == 0 {
			return id, true
		}
	}
	return 0, false
}

// Labels tells the set of a number.
func (x *Ids) Labels(id int) ([]api.Label, api.Errno) {
	if x == nil {
		return nil, api.ErrNil
	}
	set, there := x.sets[id]
	if !there {
		return nil, api.ErrNone
	}
	return copyOf(set), api.OK
}

// Drop takes a set away; its number is not used again.
func (x *Ids) Drop(l []api.Label) api.Errno {
	if x == nil {
		return api.ErrNil
	}
	id, there := x.Find(l)
	if !there {
		return api.ErrNone
	}
	h := Hash(l)
	others := slices.DeleteFunc(x.byHash[h], func(other int) bool { return other == id })
	if len(others) == 0 {
		delete(x.byHash, h)
	} else {
		x.byHash[h] = others
	}
	delete(x.sets, id)
	return api.OK
}

// Len tells how many sets there are.
func (x *Ids) Len() int {
	if x == nil {
		return 0
	}
	return len(x.sets)
}

// All tells the sets that are there now, by their numbers, whatever is put and dropped while it is gone through.
func (x *Ids) All() iter.Seq2[int, []api.Label] {
	ids, sets := x.rising()
	return func(yield func(int, []api.Label) bool) {
		for i, id := range ids {
			if !yield(id, copyOf(sets[i])) {
				return
			}
		}
	}
}

func (x *Ids) add(l []api.Label) int {
	if x.sets == nil {
		// An Ids that NewIds has not made has no maps yet.
		x.sets, x.byHash = map[int][]api.Label{}, map[uint64][]int{}
	}
	x.last++
	x.sets[x.last] = copyOf(l)
	h := Hash(l)
	x.byHash[h] = append(x.byHash[h], x.last)
	return x.last
}

// rising answers the numbers, rising, and beside them their sets, which nobody ever writes into.
func (x *Ids) rising() ([]int, [][]api.Label) {
	if x == nil {
		return nil, nil
	}
	ids := make([]int, 0, len(x.sets))
	for id := range x.sets {
		ids = append(ids, id)
	}
	slices.Sort(ids)
	sets := make([][]api.Label, len(ids))
	for i, id := range ids {
		sets[i] = x.sets[id]
	}
	return ids, sets
}
