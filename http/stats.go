package http

import (
	"sync"

	"tocsin/api"
)

// atATime is how many goroutines of Batch there are at a time.
const atATime = 16

// Stats tells how many answers of each code there were. Several goroutines may use it at a time.
type Stats struct {
	counts counts
}

// counts has how many of each code there were, behind the mutex.
type counts struct {
	sync.Mutex
	of map[int]int64
}

// NewStats answers stats that have counted nothing.
func NewStats() *Stats {
	return &Stats{}
}

// Count counts one more answer of a code.
func (s *Stats) Count(code int) api.Errno {
	_, is := Words(code)
	switch {
	case s == nil:
		return api.ErrNil
	case !is:
		return api.ErrArg
	}
	s.counts.Lock()
	defer s.counts.Unlock()
	if s.counts.of == nil {
		s.counts.of = map[int]int64{}
	}
	s.counts.of[code]++
	return api.OK
}

// Batch counts all codes, each by a goroutine of its own, or none of them.
func (s *Stats) Batch(codes []int) api.Errno {
	if s == nil {
		return api.ErrNil
	}
	for _, code := range codes {
		if _, is := Words(code); !is {
			return api.ErrArg
		}
	}
	for from := 0; from < len(codes); from += atATime {
		s.countAll(codes[from:min(from+atATime, len(codes))])
	}
	return api.OK
}

// countAll counts all codes at once, and waits until each is counted.
func (s *Stats) countAll(codes []int) {
	var all sync.WaitGroup
	for _, code := range codes {
		all.Add(1)
		go func() {
			defer all.Done()
			s.Count(code)
		}()
	}
	all.Wait()
}

// Of tells how many answers of a code were counted.
func (s *Stats) Of(code int) int64 {
	if s == nil {
		return 0
	}
	s.counts.Lock()
	defer s.counts.Unlock()
	return s.counts.of[code]
}

// All tells how many answers were counted.
func (s *Stats) All() int64 {
	if s == nil {
		return 0
	}
	s.counts.Lock()
	defer s.counts.Unlock()
	all := int64(0)
	for _, n := range s.counts.of {
		all += n
	}
	return all
}
