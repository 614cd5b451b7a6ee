package store

import (
	"math"
	"math/rand"
	"slices"
	"strings"
	"testing"

	"tocsin/api"
	"tocsin/head"
	"tocsin/match"
)

func TestConstants(t *testing.T) {
	if math.Float64bits(stale) != Stale || math.Float64bits(theNaN) != NaN {
		t.Error("other bits")
	}
}

func TestP11_1_Nil(t *testing.T) {
	if s := New(nil); s != nil {
		t.Error("of a nil head")
	}
	var s *Store
	if e := s.Add(opened(t)); e != api.ErrNil {
		t.Error("Add", e)
	}
	if e := s.Add(nil); e != api.ErrNil {
		t.Error("Add", e)
	}
	if n := s.Blocks(); n != 0 {
		t.Error("Blocks", n)
	}
	for _, ms := range [][]api.Matcher{nil, {{}}, make([]api.Matcher, 17)} {
		if l, e := s.Range(ms, -1, 5); l != nil || e != api.ErrNil {
			t.Error("Range", l, e)
		}
		if l, e := s.Instant(ms, -1, 0); l != nil || e != api.ErrNil {
			t.Error("Instant", l, e)
		}
	}
	// A store that New has not made ends nothing in a panic.
	x := &Store{}
	x.Add(opened(t))
	x.Range(nil, 0, 1)
	x.Instant(nil, 0, 1)
}

func TestP11_1_Blocks(t *testing.T) {
	s := stored(t, nil)
	b := opened(t, ser(of("a", "1"), at(1, 1)))
	for i := range 256 {
		if e := s.Add(nil); e != api.ErrNil || s.Blocks() != i {
			t.Fatal("a nil block", e, s.Blocks())
		}
		if e := s.Add(b); e != api.OK || s.Blocks() != i+1 {
			t.Fatal(i, e, s.Blocks())
		}
	}
	other := opened(t, ser(of("b", "1"), at(1, 1)))
	for range 2 {
		if e := s.Add(other); e != api.ErrFull || s.Blocks() != 256 {
			t.Error("one more", e, s.Blocks())
		}
		if e := s.Add(nil); e != api.ErrNil || s.Blocks() != 256 {
			t.Error("a nil block", e, s.Blocks())
		}
	}
	checkRange(t, s, []api.Series{ser(of("a", "1"), at(1, 1))}, nil, 0, 9)
}

// The last one of 256 blocks tells.
func TestP11_1_EachBlockIsASource(t *testing.T) {
	var blocks [][]api.Series
	var want []api.Sample
	for i := range int64(256) {
		blocks = append(blocks, []api.Series{ser(of("a", "1"), at(i, 1), at(1000, float64(i)))})
		want = append(want, at(i, 1))
	}
	s := stored(t, nil, blocks...)
	want = append(want, at(1000, 255))
	if l, e := s.Range(nil, 0, 1000); e != api.OK || !same(l, []api.Series{ser(of("a", "1"), want...)}) {
		t.Error(l, e)
	}
}

func TestP11_1_TheHeadGoesOn(t *testing.T) {
	h := head.New(10, 10)
	s := New(h)
	checkRange(t, s, nil, nil, 0, 1<<50)
	h.Append(of("a", "1"), at(5, 1))
	checkRange(t, s, []api.Series{ser(of("a", "1"), at(5, 1))}, nil, 0, 1<<50)
	s.Add(opened(t, ser(of("a", "1"), at(1, 1), at(6, 3))))
	h.Append(of("a", "1"), at(6, 2))
	h.Append(of("b", "1"), at(2, 1))
	all := []api.Series{ser(of("a", "1"), at(1, 1), at(5, 1), at(6, 2)), ser(of("b", "1"), at(2, 1))}
	checkRange(t, s, all, nil, 0, 1<<50)
	checkInstant(t, s, all, nil, 6, 2)
	h.Cut(1 << 51)
	all = []api.Series{ser(of("a", "1"), at(1, 1), at(6, 3))}
	checkRange(t, s, all, nil, 0, 1<<50)
	checkInstant(t, s, all, nil, 6, 2)
	// Two stores of one head know nothing of each other's blocks.
	if other := New(h); other.Blocks() != 0 || s.Blocks() != 1 {
		t.Error("Blocks")
	}
}

func TestExample(t *testing.T) {
	set := of("a", "1")
	s := stored(t, []api.Series{ser(set, at(6, 3), at(9, 4))}, []api.Series{ser(set, at(5, 1), at(6, 2))})
	if l, e := s.Range(nil, 0, 8); e != api.OK || !same(l, []api.Series{ser(set, at(5, 1), at(6, 3))}) {
		t.Error("Range", l, e)
	}
	if l, e := s.Instant(nil, 10, 5); e != api.OK || !samePoints(l, []api.Point{{Labels: set, V: 4}}) {
		t.Error("Instant at 10", l, e)
	}
	if l, e := s.Instant(nil, 20, 5); e != api.OK || len(l) != 0 {
		t.Error("Instant at 20", l, e)
	}
}

func TestP11_3_Sources(t *testing.T) {
	set := of("a", "1")
	old := []api.Series{ser(set, at(1, 1), at(2, 2), at(5, 5))}
	mid := []api.Series{ser(set, at(2, 20), at(3, 30)), ser(of("b", "1"), at(3, 3))}
	young := []api.Series{ser(set, at(3, 300), at(4, 400), at(5, 500))}
	for _, x := range []struct {
		inHead []api.Series
		blocks [][]api.Series
		want   []api.Series
	}{
		{nil, nil, nil},
		{nil, [][]api.Series{nil}, nil},
		{young, nil, young},
		{nil, [][]api.Series{young}, young},
		{young, [][]api.Series{old, mid}, []api.Series{ser(set, at(1, 1), at(2, 20), at(3, 300), at(4, 400), at(5, 500)), mid[1]}},
		{young, [][]api.Series{mid, old}, []api.Series{ser(set, at(1, 1), at(2, 2), at(3, 300), at(4, 400), at(5, 500)), mid[1]}},
		{old, [][]api.Series{young, mid}, []api.Series{ser(set, at(1, 1), at(2, 2), at(3, 30), at(4, 400), at(5, 5)), mid[1]}},
		{nil, [][]api.Series{young, mid, old}, []api.Series{ser(set, at(1, 1), at(2, 2), at(3, 30), at(4, 400), at(5, 5)), mid[1]}},
		{nil, [][]api.Series{old, young, mid}, []api.Series{ser(set, at(1, 1), at(2, 20), at(3, 30), at(4, 400), at(5, 500)), mid[1]}},
	} {
		s := stored(t, x.inHead, x.blocks...)
		if l, e := s.Range(nil, 0, 1<<50); e != api.OK || !same(l, x.want) {
			t.Errorf("%v, %v: %v, %d, not %v", x.inHead, x.blocks, l, e, x.want)
		}
	}
}

// A block may have the series without labels: it is one as any other.
func TestP11_3_WithoutLabels(t *testing.T) {
	s := stored(t, []api.Series{ser(of("a", "1"), at(1, 1))}, []api.Series{ser(nil, at(1, 7))}, []api.Series{ser(nil, at(2, 8))})
	all := []api.Series{ser(nil, at(1, 7), at(2, 8)), ser(of("a", "1"), at(1, 1))}
	checkRange(t, s, all, nil, 0, 9)
	checkRange(t, s, all, []api.Matcher{eq("a", "")}, 0, 9)
	checkRange(t, s, all, []api.Matcher{eq("a", "1")}, 0, 9)
	checkInstant(t, s, all, nil, 5, 5)
}

// times are the edges of what a time may be, and places about samples.
var times = []int64{math.MinInt64, -1, 0, 1, 4, 5, 6, 7, 9, 10, 11, 1<<50 - 1, 1 << 50, 1<<50 + 1, math.MaxInt64}

func shop(t *testing.T) (*Store, []api.Series) {
	lists := [][]api.Series{
		{ser(of("a", "1"), at(0, 1), at(5, 2), at(6, stale), at(10, otherNaN)), ser(of("__name__", "up", "job", "x"), at(6, 6))},
		{ser(of("a", "2"), at(5, 1)), ser(of("__name__", "up", "job", "y"), at(9, 9), at(1<<50, 1))},
		{ser(of("a", "1"), at(6, 3), at(7, stale)), ser(of("__name__", "up", "job", "x"), at(7, theNaN))},
	}
	return stored(t, lists[2], lists[0], lists[1]), modelMerge(lists...)
}

func TestP11_3_Times(t *testing.T) {
	s, all := shop(t)
	for _, from := range times {
		for _, to := range times {
			checkRange(t, s, all, nil, from, to)
			checkRange(t, s, all, []api.Matcher{eq("__name__", "up")}, from, to)
		}
	}
	if l, e := s.Range(nil, 6, 5); e != api.OK || len(l) != 0 {
		t.Error("from above to", l, e)
	}
	if l, e := s.Range(nil, 6, 6); e != api.OK || len(l) != 2 || l[1].Samples[0].V != 3 {
		t.Error("one time", l, e)
	}
}

func wrongMatchers() [][]api.Matcher {
	bad := []api.Matcher{
		{Op: 0, Name: "a", Value: "1"},
		{Op: 5, Name: "a", Value: "1"},
		{Op: -1, Name: "", Value: "\xff"},
		{Op: api.MEq, Name: "-", Value: "1"},
		{Op: api.MNe, Name: "a", Value: "\xff"},
		{Op: api.MEq, Name: "a", Value: strings.Repeat("v", 257)},
		{Op: api.MRe, Name: "a", Value: "("},
		{Op: api.MNre, Name: "a", Value: "a**"},
	}
	var out [][]api.Matcher
	for _, m := range bad {
		out = append(out, []api.Matcher{m}, []api.Matcher{eq("a", "1"), m}, []api.Matcher{m, {Op: 9}}, append(slices.Repeat([]api.Matcher{eq("a", "1")}, 15), m))
	}
	return append(out, slices.Repeat([]api.Matcher{eq("a", "1")}, 17), make([]api.Matcher, 17))
}

func TestP11_3_Matchers(t *testing.T) {
	s, all := shop(t)
	for _, ms := range wrongMatchers() {
		e := modelMatchers(ms)
		if e == api.OK {
			t.Fatal("these are right", ms)
		}
		for _, x := range []int64{-1, 0, 5, 1<<50 + 1} {
			if l, got := s.Range(ms, x, 5); l != nil || got != e {
				t.Errorf("Range(%v, %d): %v, %d, not %d", ms, x, l, got, e)
			}
			if l, got := s.Instant(ms, x, x); l != nil || got != e {
				t.Errorf("Instant(%v, %d): %v, %d, not %d", ms, x, l, got, e)
			}
		}
	}
	for _, ms := range [][]api.Matcher{
		nil,
		{},
		{eq("a", "1")},
		{eq("a", "3")},
		{eq("a", "")},
		{{Op: api.MNe, Name: "a", Value: "1"}},
		{{Op: api.MRe, Name: "job", Value: "x|y"}},
		{{Op: api.MNre, Name: "job", Value: "x.*"}, eq("__name__", "up")},
		slices.Repeat([]api.Matcher{eq("a", "1")}, 16),
	} {
		checkRange(t, s, all, ms, 0, 1<<50)
		checkInstant(t, s, all, ms, 9, 9)
	}
}

func TestP11_3_MaxSamples(t *testing.T) {
	a, b := of("a", "1"), of("b", "1")
	inHead := []api.Series{ser(a, every(0, 50000)...), ser(b, every(0, 49999)...)}
	// The samples of the block are those of the head too, but for the last two.
	s := stored(t, inHead, []api.Series{ser(a, every(49000, 1002)...)})
	for to, want := range map[int64]int{49999: 99999, 50000: 100000} {
		l, e := s.Range(nil, 0, to)
		if e != api.OK || len(l) != 2 || len(l[0].Samples)+len(l[1].Samples) != want {
			t.Error("so many", to, e)
		}
	}
	if l, e := s.Range(nil, 0, 50001); l != nil || e != api.ErrLarge {
		t.Error("one more", e)
	}
	if l, e := s.Range([]api.Matcher{eq("a", "1")}, 0, 50001); e != api.OK || len(l) != 1 {
		t.Error("of one series", e)
	}
	if l, e := s.Range(nil, 1, 50001); e != api.OK || len(l) != 2 {
		t.Error("from 1 on", e)
	}
	if l, e := s.Range(nil, -1, 50001); l != nil || e != api.ErrArg {
		t.Error("from no time on", e)
	}
	// Points are not counted by the samples that were looked at.
	if l, e := s.Instant(nil, 50001, api.MaxSpan); e != api.OK || len(l) != 2 {
		t.Error("Instant", l, e)
	}
}

func TestP11_4_Times(t *testing.T) {
	s, all := shop(t)
	for _, when := range times {
		for _, lookback := range []int64{math.MinInt64, -1, 0, 1, 2, 3, 4, 5, 6, 10, 11, 1<<40 - 1, 1 << 40, 1<<40 + 1, 1 << 50, math.MaxInt64} {
			checkInstant(t, s, all, nil, when, lookback)
			checkInstant(t, s, all, []api.Matcher{eq("a", "1")}, when, lookback)
		}
	}
}

func TestP11_4_Instant(t *testing.T) {
	set := of("a", "1")
	s := stored(t, []api.Series{ser(set, at(10, 1), at(20, stale), at(30, otherNaN), at(40, 4))}, []api.Series{ser(set, at(15, 5), at(25, stale), at(35, minusZero))})
	point := func(v float64) []api.Point { return []api.Point{{Labels: set, V: v}} }
	for _, x := range []struct {
		t, lookback int64
		want        []api.Point
		e           api.Errno
	}{
		{9, 100, nil, api.OK},
		{10, 1, point(1), api.OK},  // at t
		{11, 1, nil, api.OK},       // at t - lookback
		{11, 2, point(1), api.OK},  // one above it
		{15, 10, point(5), api.OK}, // in the block
		{19, 4, nil, api.OK},
		{19, 5, point(5), api.OK},
		{20, 100, nil, api.OK}, // a stale marker hides what is ahead of it
		{22, 100, nil, api.OK},
		{29, 100, nil, api.OK},
		{30, 1, point(otherNaN), api.OK},
		{34, 5, point(otherNaN), api.OK},
		{35, 5, point(minusZero), api.OK},
		{50, 10, nil, api.OK},
		{50, 11, point(4), api.OK},
		{1 << 50, 1 << 40, nil, api.OK},
		{50, 1 << 40, point(4), api.OK},
		{50, 1<<40 + 1, nil, api.ErrArg},
		{50, 0, nil, api.ErrArg},
		{-1, 1, nil, api.ErrArg},
		{1<<50 + 1, 1, nil, api.ErrArg},
	} {
		if l, e := s.Instant(nil, x.t, x.lookback); e != x.e || !samePoints(l, x.want) || e != api.OK && l != nil {
			t.Errorf("Instant at %d, lookback %d: %v, %d, not %v", x.t, x.lookback, l, e, x.want)
		}
	}
}

func TestP11_4_MaxPoints(t *testing.T) {
	inHead := numbered(999, "a", 10)
	s := stored(t, inHead, numbered(1, "b", 10), numbered(1, "c", 11), []api.Series{ser(of("d", "1"), at(11, stale))}, numbered(500, "a", 11))
	if l, e := s.Instant(nil, 10, 5); e != api.OK || len(l) != 1000 {
		t.Error("so many", len(l), e)
	}
	if l, e := s.Instant(nil, 11, 5); l != nil || e != api.ErrLarge {
		t.Error("one more", len(l), e)
	}
	if l, e := s.Instant([]api.Matcher{{Op: api.MNe, Name: "a", Value: "0"}}, 11, 5); e != api.OK || len(l) != 1000 {
		t.Error("one less", len(l), e)
	}
	// What has ended is no point.
	if l, e := s.Instant([]api.Matcher{{Op: api.MNe, Name: "c", Value: "0"}}, 11, 5); e != api.OK || len(l) != 1000 {
		t.Error("with one that has ended", len(l), e)
	}
	if l, e := s.Range(nil, 0, 20); e != api.OK || len(l) != 1002 {
		t.Error("Range", len(l), e)
	}
}

// A head that has all of it tells the same.
func TestP11_5_Merged(t *testing.T) {
	r := rand.New(rand.NewSource(115))
	for range 400 {
		var blocks [][]api.Series
		for range r.Intn(4) {
			blocks = append(blocks, some(r))
		}
		inHead := some(r)
		all := modelMerge(append(slices.Clone(blocks), inHead)...)
		s, whole := stored(t, inHead, blocks...), New(filled(t, all...))
		for range 10 {
			ms, from, to := someMatchers(r), int64(r.Intn(24)-2), int64(r.Intn(24)-2)
			checkRange(t, s, all, ms, from, to)
			checkRange(t, whole, all, ms, from, to)
			checkInstant(t, s, all, ms, from, to)
			checkInstant(t, whole, all, ms, from, to)
		}
	}
}

func TestP11_6_Instant(t *testing.T) {
	r := rand.New(rand.NewSource(116))
	for range 400 {
		s := stored(t, some(r), some(r), some(r))
		for range 10 {
			ms, when, lookback := someMatchers(r), int64(r.Intn(24)), int64(1+r.Intn(24))
			if e, _ := match.Right(ms); e != api.OK {
				continue
			}
			l, _ := s.Range(ms, max(0, when-lookback+1), when)
			var want []api.Point
			for _, one := range l {
				if last := one.Samples[len(one.Samples)-1]; math.Float64bits(last.V) != Stale {
					want = append(want, api.Point{Labels: one.Labels, V: last.V})
				}
			}
			if got, e := s.Instant(ms, when, lookback); e != api.OK || !samePoints(got, want) {
				t.Fatalf("Instant(%v, %d, %d): %v, %d, not %v", ms, when, lookback, got, e, want)
			}
		}
	}
}

func TestMemory(t *testing.T) {
	s, all := shop(t)
	ms := []api.Matcher{{Op: api.MNe, Name: "zzz", Value: "1"}}
	for range 3 {
		l, _ := s.Range(ms, 0, 1<<50)
		if !same(l, all) {
			t.Fatal("Range", l)
		}
		spoil(l)
		points, _ := s.Instant(ms, 9, 9)
		for i := range points {
			_ = append(points[i].Labels, api.Label{Name: "!"})
			points[i].Labels[0] = api.Label{Name: "!"}
			points[i].V = -1
		}
		checkInstant(t, s, all, ms, 9, 9)
		if ms[0] != (api.Matcher{Op: api.MNe, Name: "zzz", Value: "1"}) {
			t.Fatal("the matchers were changed")
		}
	}
	// Refused calls change nothing.
	for i := range 5 {
		s.Add(nil)
		s.Range(wrongMatchers()[i], 0, 5)
		s.Range(nil, -1, 5)
		s.Instant(nil, 5, 0)
	}
	checkRange(t, s, all, nil, 0, 1<<50)
	if s.Blocks() != 2 {
		t.Error("Blocks", s.Blocks())
	}
}

// A series that is gone through may be left early, and gone through again.
func TestMergedIsLeftEarly(t *testing.T) {
	l := numbered(5, "a", 1)
	all := merged(slices.Clone(l))
	for n := range 6 {
		var seen []api.Series
		for one := range all {
			if len(seen) == n {
				break
			}
			seen = append(seen, one)
		}
		if !same(seen, l[:n]) {
			t.Error("left behind", n, seen)
		}
		spoil(seen)
	}
}

func FuzzStore(f *testing.F) {
	f.Add(int64(1), int64(0), int64(20))
	f.Add(int64(2), int64(5), int64(1))
	f.Fuzz(func(t *testing.T, seed, x, y int64) {
		r := rand.New(rand.NewSource(seed))
		lists := [][]api.Series{some(r), some(r), some(r)}
		s, all := stored(t, lists[2], lists[0], lists[1]), modelMerge(lists...)
		ms := someMatchers(r)
		checkRange(t, s, all, ms, x, y)
		checkInstant(t, s, all, ms, x, y)
		checkMerge(t, lists...)
	})
}
