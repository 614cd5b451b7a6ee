package store

import (
	"math"
	"math/rand"
	"slices"
	"strconv"
	"testing"

	"tocsin/api"
	"tocsin/block"
	"tocsin/head"
	"tocsin/labels"
	"tocsin/match"
)

var (
	stale     = math.Float64frombits(0x7ff0000000000002)
	theNaN    = math.Float64frombits(0x7ff8000000000001)
	otherNaN  = math.Float64frombits(0xfff0000000000002)
	minusZero = math.Copysign(0, -1)
)

// of: labels of names and values in turn.
func of(texts ...string) []api.Label {
	var l []api.Label
	for i := 0; i+1 < len(texts); i += 2 {
		l = append(l, api.Label{Name: texts[i], Value: texts[i+1]})
	}
	return l
}

func at(t int64, v float64) api.Sample { return api.Sample{T: t, V: v} }

// ser: a series of a label set and samples.
func ser(set []api.Label, samples ...api.Sample) api.Series {
	return api.Series{Labels: set, Samples: samples}
}

// every answers n samples at the times from on, one behind the other.
func every(from int64, n int) []api.Sample {
	var l []api.Sample
	for i := range int64(n) {
		l = append(l, at(from+i, float64(i%7)))
	}
	return l
}

// numbered answers n series of one sample each, at the time t.
func numbered(n int, name string, t int64) []api.Series {
	var l []api.Series
	for i := range n {
		l = append(l, ser(of(name, strconv.Itoa(i)), at(t, float64(i))))
	}
	return l
}

func eq(name, value string) api.Matcher { return api.Matcher{Op: api.MEq, Name: name, Value: value} }

func same(a, b []api.Series) bool {
	return slices.EqualFunc(a, b, func(x, y api.Series) bool {
		return slices.Equal(x.Labels, y.Labels) && slices.EqualFunc(x.Samples, y.Samples, func(p, q api.Sample) bool {
			return p.T == q.T && math.Float64bits(p.V) == math.Float64bits(q.V)
		})
	})
}

func samePoints(a, b []api.Point) bool {
	return slices.EqualFunc(a, b, func(x, y api.Point) bool {
		return slices.Equal(x.Labels, y.Labels) && math.Float64bits(x.V) == math.Float64bits(y.V)
	})
}

func opened(t testing.TB, l ...api.Series) *block.Block {
	t.Helper()
	b, e, i := block.Build(l)
	if e != api.OK {
		t.Fatal("Build", e, i)
	}
	x, e := block.Open(b)
	if e != api.OK {
		t.Fatal("Open", e)
	}
	return x
}

func filled(t testing.TB, l ...api.Series) *head.Head {
	t.Helper()
	h := head.New(1000, 100000)
	for _, s := range l {
		for _, one := range s.Samples {
			if e := h.Append(s.Labels, one); e != api.OK {
				t.Fatal("Append", e)
			}
		}
	}
	return h
}

// stored answers a store of a head's series, and of blocks.
func stored(t testing.TB, inHead []api.Series, blocks ...[]api.Series) *Store {
	t.Helper()
	s := New(filled(t, inHead...))
	for i, l := range blocks {
		if e := s.Add(opened(t, l...)); e != api.OK {
			t.Fatal("Add", i, e)
		}
	}
	return s
}

// key tells right label sets apart.
func key(l []api.Label) string {
	s, _ := labels.Print(l)
	return s
}

// modelMerge: by the words of the document, of lists without a fault.
func modelMerge(lists ...[]api.Series) []api.Series {
	sets := map[string][]api.Label{}
	samples := map[string]map[int64]float64{}
	for _, l := range lists {
		for _, s := range l {
			for _, one := range s.Samples {
				k := key(s.Labels)
				if samples[k] == nil {
					sets[k], samples[k] = s.Labels, map[int64]float64{}
				}
				samples[k][one.T] = one.V
			}
		}
	}
	var out []api.Series
	for k, set := range sets {
		s := ser(set)
		for t, v := range samples[k] {
			s.Samples = append(s.Samples, at(t, v))
		}
		slices.SortFunc(s.Samples, func(a, b api.Sample) int { return int(a.T - b.T) })
		out = append(out, s)
	}
	slices.SortFunc(out, func(a, b api.Series) int { return labels.Compare(a.Labels, b.Labels) })
	return out
}

// modelFault: what is wrong of some lists.
func modelFault(lists ...[]api.Series) api.Errno {
	for _, l := range lists {
		for _, s := range l {
			if e, _ := labels.Right(s.Labels); e != api.OK || len(s.Labels) == 0 {
				return api.ErrLabel
			}
			for i, one := range s.Samples {
				if one.T < 0 || one.T > 1<<50 || i > 0 && one.T <= s.Samples[i-1].T {
					return api.ErrArg
				}
			}
		}
	}
	return api.OK
}

// modelRange: of merged series, those that match, with the samples from from to to.
func modelRange(all []api.Series, ms []api.Matcher, from, to int64) ([]api.Series, api.Errno) {
	if e := modelMatchers(ms); e != api.OK {
		return nil, e
	}
	if from < 0 || from > 1<<50 || to < 0 || to > 1<<50 {
		return nil, api.ErrArg
	}
	var out []api.Series
	n := 0
	for _, s := range all {
		if ok, _ := match.All(ms, s.Labels); !ok {
			continue
		}
		left := ser(s.Labels)
		for _, one := range s.Samples {
			if one.T >= from && one.T <= to {
				left.Samples = append(left.Samples, one)
				n++
			}
		}
		if len(left.Samples) > 0 {
			out = append(out, left)
		}
	}
	if n > 100000 {
		return nil, api.ErrLarge
	}
	return out, api.OK
}

// modelInstant: of merged series, the last samples.
func modelInstant(all []api.Series, ms []api.Matcher, t, lookback int64) ([]api.Point, api.Errno) {
	if e := modelMatchers(ms); e != api.OK {
		return nil, e
	}
	if t < 0 || t > 1<<50 || lookback < 1 || lookback > 1<<40 {
		return nil, api.ErrArg
	}
	var out []api.Point
	for _, s := range all {
		if ok, _ := match.All(ms, s.Labels); !ok {
			continue
		}
		last := at(-1, 0)
		for _, one := range s.Samples {
			if one.T <= t && one.T > t-lookback {
				last = one
			}
		}
		if last.T >= 0 && math.Float64bits(last.V) != 0x7ff0000000000002 {
			out = append(out, api.Point{Labels: s.Labels, V: last.V})
		}
	}
	if len(out) > 1000 {
		return nil, api.ErrLarge
	}
	return out, api.OK
}

func modelMatchers(ms []api.Matcher) api.Errno {
	if len(ms) > 16 {
		return api.ErrSize
	}
	e, _ := match.Right(ms)
	return e
}

// some answers a few series, of labels and times that come again, those of a head (rising, none twice) as any.
func some(r *rand.Rand) []api.Series {
	values := []float64{0, 1, 2, minusZero, math.Inf(1), stale, theNaN, otherNaN}
	var l []api.Series
	for _, set := range [][]api.Label{of("a", "1"), of("a", "1", "b", "1"), of("a", "2"), of("b", "1"), of("__name__", "up", "a", "1")} {
		if r.Intn(3) == 0 {
			continue
		}
		s := ser(set)
		for t := range int64(r.Intn(20)) {
			if r.Intn(2) == 0 {
				s.Samples = append(s.Samples, at(t, values[r.Intn(len(values))]))
			}
		}
		if len(s.Samples) > 0 {
			l = append(l, s)
		}
	}
	r.Shuffle(len(l), func(i, j int) { l[i], l[j] = l[j], l[i] })
	return l
}

// someMatchers answers a few matchers, most of them right.
func someMatchers(r *rand.Rand) []api.Matcher {
	var l []api.Matcher
	for range r.Intn(3) {
		l = append(l, api.Matcher{
			Op:    1 + r.Intn(4),
			Name:  []string{"a", "b", "__name__", "c"}[r.Intn(4)],
			Value: []string{"1", "2", "", "up", ".*", ".+", "1|2"}[r.Intn(7)],
		})
	}
	if r.Intn(20) == 0 {
		l = append(l, api.Matcher{Op: 3, Name: "a", Value: "("})
	}
	return l
}

func checkRange(t *testing.T, s *Store, all []api.Series, ms []api.Matcher, from, to int64) {
	t.Helper()
	want, e := modelRange(all, ms, from, to)
	got, ge := s.Range(ms, from, to)
	if ge != e || !same(got, want) {
		t.Fatalf("Range(%v, %d, %d): %v, %d, not %v, %d", ms, from, to, got, ge, want, e)
	}
}

func checkInstant(t *testing.T, s *Store, all []api.Series, ms []api.Matcher, when, lookback int64) {
	t.Helper()
	want, e := modelInstant(all, ms, when, lookback)
	got, ge := s.Instant(ms, when, lookback)
	if ge != e || !samePoints(got, want) {
		t.Fatalf("Instant(%v, %d, %d): %v, %d, not %v, %d", ms, when, lookback, got, ge, want, e)
	}
}

// spoil writes into all that was answered, and appends to it.
func spoil(l []api.Series) {
	for i := range l {
		_ = append(l[i].Labels, api.Label{Name: "!"})
		_ = append(l[i].Samples, at(-5, -5))
		for j := range l[i].Labels {
			l[i].Labels[j] = api.Label{Name: "!", Value: "!"}
		}
		for j := range l[i].Samples {
			l[i].Samples[j] = at(-7, -7)
		}
	}
	_ = append(l, ser(nil))
	clear(l)
}

// copied answers the same series as other memory.
func copied(l []api.Series) []api.Series {
	var out []api.Series
	for _, s := range l {
		out = append(out, ser(slices.Clone(s.Labels), slices.Clone(s.Samples)...))
	}
	return out
}
