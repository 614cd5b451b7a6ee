package silence

import (
	"cmp"
	"maps"
	"slices"

	"tocsin/api"
	"tocsin/spans"
)

// Open answers the store that comes of records, one after another, or what is wrong of one, and its number.
func Open(records [][]byte) (*Store, api.Errno, int) {
	s := New()
	for i, b := range records {
		if e := s.follow(b); e != api.OK {
			return nil, e, i
		}
	}
	s.forget()
	return s, api.OK, 0
}

// Changed answers the records of what was changed since it was asked last, in the order of the last changes.
func (s *Store) Changed() [][]byte {
	if s == nil {
		return nil
	}
	byChange := func(a, b int64) int { return cmp.Compare(s.changed[a], s.changed[b]) }
	var out [][]byte
	for _, id := range slices.SortedFunc(maps.Keys(s.changed), byChange) {
		out = append(out, s.told(id))
	}
	s.forget()
	return out
}

// Records answers records of which a store comes that goes on as this one.
func (s *Store) Records() [][]byte {
	var out [][]byte
	greatest := int64(0)
	for x := range s.each() {
		out = append(out, written(x.Silence))
		greatest = x.Id
	}
	if last := s.Last(); last > greatest {
		out = append(out, writtenGone(last))
	}
	return out
}

// Record answers the record of a silence.
func Record(x api.Silence) ([]byte, api.Errno) {
	if !isId(x.Id) {
		return nil, api.ErrArg
	}
	if _, can := canBe(x); !can {
		return nil, api.ErrForm
	}
	return written(x), api.OK
}

// Read answers the silence of a record.
func Read(b []byte) (api.Silence, api.Errno) {
	x, is := read(b)
	if !is {
		return api.Silence{}, api.ErrForm
	}
	return x.Silence, api.OK
}

// told answers the record of what has become of the silence of an Id.
func (s *Store) told(id int64) []byte {
	x, there := s.silences[id]
	if !there {
		return writtenGone(id)
	}
	return written(x.Silence)
}

// follow does what a record tells.
func (s *Store) follow(b []byte) api.Errno {
	if id, is := readGone(b); is {
		delete(s.silences, id)
		s.last = max(s.last, id)
		return api.OK
	}
	x, is := read(b)
	if !is {
		return api.ErrForm
	}
	if _, there := s.silences[x.Id]; !there && s.Len() >= api.MaxSilences {
		return api.ErrFull
	}
	s.put(x)
	s.last = max(s.last, x.Id)
	return api.OK
}

// forget makes the store one of which nothing was changed.
func (s *Store) forget() {
	s.changed, s.changes = nil, 0
}

// canBe answers a silence whose matchers can be asked, if it can be.
func canBe(x api.Silence) (entry, bool) {
	out, e := ready(x)
	if e != api.OK || x.From > x.To {
		return entry{}, false
	}
	return out, true
}

func isId(id int64) bool {
	return spans.Within(id, 1, api.MaxTime)
}
