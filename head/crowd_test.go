package head

import (
	"fmt"
	"math"
	"runtime"
	"slices"
	"strconv"
	"sync"
	"testing"
	"time"

	"tocsin/api"
)

// mixed: series with faults between them.
func mixed() []api.Series {
	return []api.Series{
		{Labels: of("a", "1"), Samples: []api.Sample{at(5, 1), at(4, 1), at(5, 1), at(5, 2), at(6, 1)}},
		{Labels: nil, Samples: every(2)},
		{Labels: of("a", "2"), Samples: nil},
		{Labels: of("b", "1", "a", "1"), Samples: every(1)},
		{Labels: of("a", "3"), Samples: []api.Sample{at(-1, 1), at(0, 1), at(1<<50, 1), at(1<<50+1, 1)}},
		{Labels: of("a", "1"), Samples: []api.Sample{at(6, 1), at(7, 1), at(8, 1)}},
		{Labels: of("a", "4"), Samples: every(300)},
		{Labels: of("a", "5"), Samples: every(3)},
	}
}

func TestP9_4_CrowdAskers(t *testing.T) {
	for _, n := range []int{math.MinInt, -1, 0, 9, 10, math.MaxInt} {
		h := New(10, 10)
		was := state(h)
		if l, ok, e := h.Crowd(mixed(), n); l != nil || ok || e != api.ErrArg || state(h) != was || h.Refused() != 0 {
			t.Error(n, l, ok, e)
		}
	}
	for n := 1; n <= 8; n++ {
		for _, l := range [][]api.Series{nil, {}, {{Labels: of("a", "1")}}} {
			h := New(10, 10)
			if out, ok, e := h.Crowd(l, n); len(out) != 0 || !ok || e != api.OK || h.Len() != 0 {
				t.Error(n, out, ok, e)
			}
		}
	}
}

func TestP9_8_Crowd(t *testing.T) {
	for askers := 1; askers <= 8; askers++ {
		for _, room := range [][2]int{{4, 100}, {3, 1000}, {2, 3}, {1000, 100000}, {1, 1}} {
			for _, threads := range []int{1, 2, 8} {
				was := runtime.GOMAXPROCS(threads)
				h, alone := New(room[0], room[1]), New(room[0], room[1])
				m := &model{series: room[0], samples: room[1]}
				// Once more with what was there already.
				for range 2 {
					var want, words []api.Errno
					for _, s := range mixed() {
						for _, one := range s.Samples {
							want = append(want, alone.Append(s.Labels, one))
							words = append(words, m.append(s.Labels, one))
						}
					}
					out, ok, e := h.Crowd(mixed(), askers)
					if !ok || e != api.OK || !slices.Equal(out, want) || !slices.Equal(out, words) {
						t.Fatal(askers, room, out, ok, e, want)
					}
					if state(h) != state(alone) || h.Refused() != alone.Refused() {
						t.Fatal("it leaves another head", askers, room)
					}
					hold(t, h, m)
				}
				runtime.GOMAXPROCS(was)
			}
		}
	}
}

// An asker that is told less than before, or more than there is in the end, is seen.
func TestP9_4_CrowdSees(t *testing.T) {
	h := New(5, 5)
	fill(t, h, of("a", "1"), every(2))
	h.Append(nil, at(0, 0)) // 1, 2, 1
	ask := func(a asker) asker {
		turns := make(chan int, 1)
		turns <- 0
		close(turns)
		a.ask(h, turns)
		return a
	}
	for _, c := range []struct {
		before counts
		less   bool
	}{{counts{}, false}, {counts{1, 2, 1}, false}, {counts{2, 0, 0}, true}, {counts{0, 3, 0}, true}, {counts{0, 0, 2}, true}, {counts{1, 1, 1}, false}} {
		if a := ask(asker{told: c.before}); a.less != c.less || a.told != h.counts() || fine([]asker{{}, a}, h.counts()) == c.less {
			t.Error(c, a)
		}
		if a := ask(asker{told: c.before, less: true}); !a.less {
			t.Error("less is forgotten", c)
		}
	}
	told := ask(asker{})
	for i, end := range []counts{{0, 2, 1}, {1, 1, 1}, {1, 2, 0}} {
		if fine([]asker{told}, end) {
			t.Error("more than in the end", i)
		}
	}
	if !fine([]asker{told, told}, counts{1, 2, 1}) || !fine([]asker{told}, counts{9, 9, 9}) || !fine(nil, counts{}) {
		t.Error("fine")
	}
}

// All goroutines have ended when Crowd answers.
func TestP9_8_Joined(t *testing.T) {
	before := runtime.NumGoroutine()
	for range 20 {
		New(10, 1000).Crowd(mixed(), 8)
	}
	// Those that have told that they are done may need a moment to be gone, on a busy machine a longer one; one that is not joined stays.
	for n := 0; runtime.NumGoroutine() > before && n < 10000; n++ {
		time.Sleep(time.Millisecond)
	}
	if n := runtime.NumGoroutine(); n > before {
		t.Error(before, n)
	}
}

func TestP9_8_Large(t *testing.T) {
	var l []api.Series
	for i := range 1001 {
		l = append(l, api.Series{Labels: of("a", strconv.Itoa(i)), Samples: every(100)})
	}
	h := New(1000, 100000)
	out, ok, e := h.Crowd(l, 8)
	if !ok || e != api.OK || len(out) != 100100 || h.Len() != 1000 || h.Samples() != 100000 || h.Refused() != 100 {
		t.Error(len(out), ok, e, h.Len(), h.Samples(), h.Refused())
	}
	for i, x := range out {
		if (x == api.OK) != (i < 100000) || i >= 100000 && x != api.ErrFull {
			t.Fatal(i, x)
		}
	}
}

func TestCrowdMemory(t *testing.T) {
	h := New(10, 1000)
	l := mixed()
	out, _, _ := h.Crowd(l, 3)
	if fmt.Sprint(l) != fmt.Sprint(mixed()) {
		t.Error("the list is changed")
	}
	was := state(h)
	for _, s := range l {
		for i := range s.Labels {
			s.Labels[i] = api.Label{Name: "x", Value: "x"}
		}
		for i := range s.Samples {
			s.Samples[i] = at(7, 7)
		}
	}
	for i := range out {
		out[i] = 99
	}
	if state(h) != was {
		t.Error("the list is kept")
	}
}

// Others may ask while the head grows and is cut: each number was right at some moment.
func TestP9_4_AskedWhileItChanges(t *testing.T) {
	h := New(4, 1000)
	done := make(chan int)
	var all sync.WaitGroup
	for range 4 {
		all.Add(1)
		go func() {
			defer all.Done()
			refused := int64(0)
			for {
				n, samples, r := h.Len(), h.Samples(), h.Refused()
				// Series come one by one, and go all at once; samples come one by one, and go by three.
				if n < 0 || n > 3 || samples < 0 || samples > 5 || r < refused {
					t.Error(n, samples, r)
				}
				refused = r
				select {
				case <-done:
					return
				default:
				}
			}
		}()
	}
	for i := range int64(3000) {
		now := 10 * i
		h.Append(of("a", "1"), at(now, 1))
		h.Append(of("a", "2"), at(now+1, 1))
		h.Append(of("a", "2"), at(now+2, 1))
		h.Append(of("a", "3"), at(now+9, 1))
		h.Append(nil, at(0, 0))
		if h.Cut(now+9) < 3 {
			t.Error("Cut", now)
		}
	}
	close(done)
	all.Wait()
	if h.Len() != 1 || h.Samples() != 1 || h.Refused() != 3000 {
		t.Error(h.Len(), h.Samples(), h.Refused())
	}
}

// While a head that is full is emptied, nobody is told a number of the midst.
func TestP9_4_CutAtOnce(t *testing.T) {
	for range 20 {
		h := New(1000, 5000)
		for i := range 1000 {
			fill(t, h, of("a", strconv.Itoa(i)), every(3))
		}
		begun, done := make(chan int), make(chan int)
		go func() {
			close(begun)
			h.Cut(math.MaxInt64)
			close(done)
		}()
		<-begun
	asking:
		for {
			if n, samples := h.Len(), h.Samples(); n != 0 && n != 1000 || samples != 0 && samples != 3000 {
				t.Fatal("a number that was never right", n, samples)
			}
			select {
			case <-done:
				break asking
			default:
			}
		}
		if h.Len() != 0 || h.Samples() != 0 {
			t.Fatal(h.Len(), h.Samples())
		}
	}
}
