package silence

import (
	"iter"
	"maps"
	"slices"

	"tocsin/api"
	"tocsin/labels"
	"tocsin/spans"
)

// Silent tells the Ids of the silences by which these labels are silent at a time, rising.
func (s *Store) Silent(now int64, l []api.Label) ([]int64, api.Errno) {
	e, _ := labels.Right(l)
	switch {
	case s == nil:
		return nil, api.ErrNil
	case !spans.Time(now):
		return nil, api.ErrArg
	case e != api.OK:
		return nil, api.ErrLabel
	}
	hush := func(x entry) bool { return x.activeAt(now) && x.asked.Labels(l) }
	var ids []int64
	for x := range picked(s.each(), hush) {
		ids = append(ids, x.Id)
	}
	return ids, api.OK
}

// Sweep takes away the silences that have been over for so long, and tells how many went.
func (s *Store) Sweep(now, keep int64) (int, api.Errno) {
	switch {
	case s == nil:
		return 0, api.ErrNil
	case !spans.Time(now), !spans.Right(keep):
		return 0, api.ErrArg
	}
	gone := 0
	for x := range picked(s.each(), func(x entry) bool { return x.To <= now-keep }) {
		delete(s.silences, x.Id)
		s.touch(x.Id)
		gone++
	}
	return gone, api.OK
}

// Get tells the silence of an Id.
func (s *Store) Get(id int64) (api.Silence, api.Errno) {
	if s == nil {
		return api.Silence{}, api.ErrNil
	}
	x, there := s.silences[id]
	if !there {
		return api.Silence{}, api.ErrNone
	}
	return copyOf(x.Silence), api.OK
}

// Len tells how many silences there are.
func (s *Store) Len() int {
	if s == nil {
		return 0
	}
	return len(s.silences)
}

// Last tells the last Id that was given.
func (s *Store) Last() int64 {
	if s == nil {
		return 0
	}
	return s.last
}

// All tells the silences that are there now, by their Ids, whatever is changed while they are gone through.
func (s *Store) All() iter.Seq[api.Silence] {
	all := s.each()
	return func(yield func(api.Silence) bool) {
		for x := range all {
			if !yield(copyOf(x.Silence)) {
				return
			}
		}
	}
}

// each tells the entries that are there now, by their Ids.
func (s *Store) each() iter.Seq[entry] {
	var all []entry
	if s != nil {
		for _, id := range slices.Sorted(maps.Keys(s.silences)) {
			all = append(all, s.silences[id])
		}
	}
	return slices.Values(all)
}

// picked tells those that are taken.
func picked[T any](all iter.Seq[T], takes func(T) bool) iter.Seq[T] {
	return func(yield func(T) bool) {
		for x := range all {
			if takes(x) && !yield(x) {
				return
			}
		}
	}
}
