package http

import (
	"runtime"
	"slices"
	"sync"
	"testing"
	"time"

	"tocsin/api"
)

func TestP28_6_Nil(t *testing.T) {
	var s *Stats
	for _, code := range append(noCodes(), 200, 503) {
		if e := s.Count(code); e != api.ErrNil {
			t.Error(code, e)
		}
		if n := s.Of(code); n != 0 {
			t.Error(code, n)
		}
	}
	for _, l := range [][]int{nil, {}, {200}, {1}, {200, 1}} {
		if e := s.Batch(l); e != api.ErrNil {
			t.Error(l, e)
		}
	}
	if n := s.All(); n != 0 {
		t.Error(n)
	}
}

// counted asks for how many of each code there are.
func counted(t *testing.T, s *Stats, want map[int]int64) {
	t.Helper()
	all := int64(0)
	for code := range codes() {
		all += want[code]
		if n := s.Of(code); n != want[code] {
			t.Errorf("Of(%d): %d; want %d", code, n, want[code])
		}
	}
	for _, code := range noCodes() {
		if n := s.Of(code); n != 0 {
			t.Errorf("Of(%d): %d", code, n)
		}
	}
	if n := s.All(); n != all {
		t.Errorf("All: %d; want %d", n, all)
	}
}

func TestP28_6_Count(t *testing.T) {
	s := NewStats()
	want := map[int]int64{}
	counted(t, s, want)
	for range 3 {
		for code := range codes() {
			if e := s.Count(code); e != api.OK {
				t.Error(code, e)
			}
			want[code]++
			counted(t, s, want)
		}
		for _, code := range noCodes() {
			if e := s.Count(code); e != api.ErrArg {
				t.Error(code, e)
			}
		}
		s.Count(404)
		want[404]++
		counted(t, s, want)
	}
}

func TestP28_6_Batch(t *testing.T) {
	s := NewStats()
	want := map[int]int64{}
	all := []int{200, 204, 400, 404, 405, 409, 413, 422, 500, 503}
	for _, n := range []int{0, 1, 2, 15, 16, 17, 31, 32, 33, 100, 1000} {
		var l []int
		for i := range n {
			l = append(l, all[i*i%len(all)])
		}
		was := slices.Clone(l)
		for _, code := range noCodes() {
			// One that is none: nothing is counted, wherever it stands.
			for _, at := range []int{0, n / 2, n} {
				if e := s.Batch(slices.Insert(slices.Clone(l), at, code)); e != api.ErrArg {
					t.Error(n, code, e)
				}
			}
		}
		counted(t, s, want)
		if e := s.Batch(l); e != api.OK {
			t.Error(n, e)
		}
		if !slices.Equal(l, was) {
			t.Error("changed", l)
		}
		for _, code := range l {
			want[code]++
		}
		counted(t, s, want)
	}
	if s.Batch(nil) != api.OK || s.Batch([]int{}) != api.OK {
		t.Error("none")
	}
	counted(t, s, want)
}

// TestP28_6_AtATime: at most 16 count at a time, and all have ended when it answers.
func TestP28_6_AtATime(t *testing.T) {
	s := NewStats()
	before := runtime.NumGoroutine()
	s.counts.Lock() // none of them can go on
	done := make(chan api.Errno)
	go func() { done <- s.Batch(slices.Repeat([]int{200}, 1000)) }()
	most := 0
	for tries := 0; tries < 50 || most < 2 && tries < 50000; tries++ {
		most = max(most, runtime.NumGoroutine()-before-1)
		time.Sleep(time.Millisecond)
	}
	s.counts.Unlock()
	if e := <-done; e != api.OK || most < 2 || most > 16 {
		t.Error(e, most)
	}
	counted(t, s, map[int]int64{200: 1000})
}

// TestP28_6_Crowd: several count and ask at a time, and none is lost.
func TestP28_6_Crowd(t *testing.T) {
	s := NewStats()
	var all sync.WaitGroup
	const goroutines, times = 16, 50
	for i := range goroutines {
		all.Add(1)
		go func() {
			defer all.Done()
			last := int64(0)
			for range times {
				s.Count(200)
				s.Batch([]int{404, 404, 500, 200, 204, 404, 404, 500, 200, 204, 404, 404, 500, 200, 204, 404, 404, 500, 200, 204})
				s.Batch([]int{200, 201})
				s.Count(i)
				// What was counted is never lost again.
				if n := s.All(); n < last+21 {
					t.Error(n, last)
				} else {
					last = n
				}
				if s.Of(200) > s.All() {
					t.Error("more than all")
				}
			}
		}()
	}
	all.Wait()
	counted(t, s, map[int]int64{200: 5 * goroutines * times, 404: 8 * goroutines * times, 500: 4 * goroutines * times, 204: 4 * goroutines * times})
}

// TestP1_ZeroStats: stats that nobody made count as well.
func TestP1_ZeroStats(t *testing.T) {
	var s Stats
	counted(t, &s, nil)
	if s.Batch([]int{200, 200}) != api.OK || s.Count(204) != api.OK {
		t.Error("refused")
	}
	counted(t, &s, map[int]int64{200: 2, 204: 1})
}

// TestRules_Stats: two know nothing of each other, and a list is not kept.
func TestRules_Stats(t *testing.T) {
	a, b := NewStats(), NewStats()
	l := []int{200, 404}
	a.Batch(l)
	l[0], l[1] = 500, 500
	counted(t, a, map[int]int64{200: 1, 404: 1})
	counted(t, b, nil)
	b.Count(500)
	counted(t, a, map[int]int64{200: 1, 404: 1})
}
