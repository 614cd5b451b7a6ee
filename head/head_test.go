package head

import (
	"fmt"
	"math"
	"math/rand"
	"slices"
	"strconv"
	"strings"
	"testing"

	"tocsin/api"
	"tocsin/labels"
)

var (
	stale     = math.Float64frombits(0x7ff0000000000002)
	theNaN    = math.Float64frombits(0x7ff8000000000001)
	otherNaN  = math.Float64frombits(0x7ff8000000000002)
	minusZero = math.Copysign(0, -1)
)

// of: labels of names and values in turn.
func of(texts ...string) []api.Label {
	var l []api.Label
	for i := 0; i+1 < len(texts); i += 2 {
		l = append(l, api.Label{Name: texts[i], Value: texts[i+1]})
	}
	return l
}

func at(t int64, v float64) api.Sample { return api.Sample{T: t, V: v} }

// every answers n samples, each ten behind the one ahead.
func every(n int) []api.Sample {
	var l []api.Sample
	for i := range n {
		l = append(l, at(int64(10*i+10), float64(i%7)))
	}
	return l
}

func fill(t *testing.T, h *Head, l []api.Label, samples []api.Sample) {
	t.Helper()
	for _, s := range samples {
		if e := h.Append(l, s); e != api.OK {
			t.Fatalf("Append(%q, %v) = %d", l, s, e)
		}
	}
}

// state is all that a head tells, but Refused.
func state(h *Head) string {
	var b strings.Builder
	fmt.Fprintln(&b, h.Len(), h.Samples(), h.Names())
	first, last, some := h.Span()
	fmt.Fprintln(&b, first, last, some)
	for s := range h.All() {
		fmt.Fprintln(&b, told(s))
		got, ok := h.Get(s.Labels)
		fmt.Fprintln(&b, told(api.Series{Samples: got}), ok)
	}
	for _, name := range h.Names() {
		fmt.Fprintln(&b, name, h.Values(name))
	}
	return b.String()
}

// wrongSets: label sets that can not be, with each fault of chapter 4.
func wrongSets() map[string][]api.Label {
	many := []api.Label{}
	for i := range 17 {
		many = append(many, api.Label{Name: fmt.Sprintf("l%02d", i), Value: "x"})
	}
	return map[string][]api.Label{
		"nil":           nil,
		"empty":         {},
		"not rising":    of("b", "1", "a", "2"),
		"twice":         of("a", "1", "a", "1"),
		"many":          many,
		"no name":       of("", "1"),
		"a digit":       of("1a", "1"),
		"a colon":       of("a:b", "1"),
		"a sign":        of("é", "1"),
		"a long name":   of(strings.Repeat("n", 65), "1"),
		"empty value":   of("a", ""),
		"a long value":  of("a", strings.Repeat("v", 257)),
		"no UTF-8":      of("a", "\xff"),
		"half a sign":   of("a", "\xc3"),
		"behind others": of("a", "1", "b", "2", "c", ""),
	}
}

func TestExamples(t *testing.T) {
	h := New(2, 3)
	one, two, three := of("a", "1"), of("a", "2"), of("a", "3")
	for i, c := range []struct {
		l    []api.Label
		s    api.Sample
		want api.Errno
	}{
		{one, at(5, 1), api.OK}, {one, at(4, 1), api.ErrOld}, {one, at(5, 1), api.OK}, {one, at(5, 2), api.ErrTwice}, {one, at(6, 1), api.OK},
		{two, at(5, 1), api.OK}, {three, at(5, 1), api.ErrFull}, {one, at(7, 1), api.ErrFull},
	} {
		if e := h.Append(c.l, c.s); e != c.want {
			t.Error(i, e)
		}
	}
	if h.Samples() != 3 || h.Refused() != 4 || h.Len() != 2 {
		t.Error(h.Samples(), h.Refused(), h.Len())
	}
}

func TestP9_1_New(t *testing.T) {
	for _, c := range []struct {
		series, samples int
		there           bool
	}{
		{1, 1, true}, {1000, 100000, true}, {1000, 1, true}, {1, 100000, true}, {500, 5, true},
		{0, 1, false}, {1, 0, false}, {0, 0, false}, {1001, 1, false}, {1, 100001, false}, {1001, 100001, false}, {-1, 1, false}, {1, -1, false},
		{math.MinInt, 1, false}, {1, math.MinInt, false}, {math.MaxInt, 1, false}, {1, math.MaxInt, false}, {1000, 100001, false}, {1001, 100000, false},
	} {
		h := New(c.series, c.samples)
		if (h != nil) != c.there {
			t.Error(c.series, c.samples, h != nil)
		}
		if h != nil {
			hold(t, h, &model{series: c.series, samples: c.samples})
		}
	}
}

func TestP9_1_Labels(t *testing.T) {
	h := New(10, 10)
	fill(t, h, of("a", "1"), []api.Sample{at(5, 1)})
	was := state(h)
	n := int64(0)
	for name, l := range wrongSets() {
		// Whatever else is wrong, the labels are told first.
		for _, s := range []api.Sample{at(1, 1), at(-1, 1), at(1<<50+1, 1), at(5, 2)} {
			if e := h.Check(l, s); e != api.ErrLabel {
				t.Error("Check", name, e)
			}
			if e := h.Append(l, s); e != api.ErrLabel {
				t.Error("Append", name, e)
			}
			n++
		}
	}
	if state(h) != was || h.Refused() != n {
		t.Error("a refused sample is there", h.Refused(), n)
	}
	full := []api.Label{}
	for i := range 16 {
		full = append(full, api.Label{Name: fmt.Sprintf("l%02d", i), Value: strings.Repeat("é", 128)})
	}
	for _, l := range [][]api.Label{full, of(strings.Repeat("n", 64), "x"), of("_", "\x00"), of("__name__", "any thing")} {
		if e := h.Check(l, at(1, 1)); e != api.OK {
			t.Error("Check", l, e)
		}
		if e := h.Append(l, at(1, 1)); e != api.OK {
			t.Error("Append", l, e)
		}
	}
}

func TestP9_1_Times(t *testing.T) {
	h := New(10, 10)
	a, b := of("a", "1"), of("a", "2")
	for _, c := range []struct {
		l    []api.Label
		t    int64
		want api.Errno
	}{
		{a, -1, api.ErrArg}, {a, math.MinInt64, api.ErrArg}, {a, 1<<50 + 1, api.ErrArg}, {a, math.MaxInt64, api.ErrArg},
		{a, 0, api.OK}, {a, -1, api.ErrArg}, {a, 1 << 50, api.OK}, {a, 1<<50 + 1, api.ErrArg}, {a, 1<<50 - 1, api.ErrOld}, {a, 0, api.ErrOld}, {a, -1, api.ErrArg},
		{b, 1 << 50, api.OK}, {b, 0, api.ErrOld},
	} {
		was := state(h)
		if e := h.Check(c.l, at(c.t, 1)); e != c.want {
			t.Error("Check", c.l, c.t, e)
		}
		if state(h) != was {
			t.Error("Check changes the head")
		}
		if e := h.Append(c.l, at(c.t, 1)); e != c.want {
			t.Error("Append", c.l, c.t, e)
		}
		if c.want != api.OK && state(h) != was {
			t.Error("a refused Append changes the head")
		}
	}
}

func TestP9_1_SameTime(t *testing.T) {
	floats := []float64{0, minusZero, 1, -1, math.Inf(1), math.Inf(-1), stale, theNaN, otherNaN, math.NaN(), math.Float64frombits(0xfff8000000000001), math.SmallestNonzeroFloat64}
	for _, v := range floats {
		for _, w := range floats {
			h := New(1, 2)
			fill(t, h, of("a", "1"), []api.Sample{at(5, v)})
			want := api.ErrTwice
			if math.Float64bits(v) == math.Float64bits(w) {
				want = api.OK
			}
			if e := h.Check(of("a", "1"), at(5, w)); e != want {
				t.Errorf("Check %x, %x: %d", math.Float64bits(v), math.Float64bits(w), e)
			}
			if e := h.Append(of("a", "1"), at(5, w)); e != want {
				t.Errorf("Append %x, %x: %d", math.Float64bits(v), math.Float64bits(w), e)
			}
			if got, ok := h.Get(of("a", "1")); !ok || !sameSamples(got, []api.Sample{at(5, v)}) || h.Samples() != 1 {
				t.Errorf("behind %x: %v %v", math.Float64bits(w), got, ok)
			}
			// An older one with the same bits is old.
			if e := h.Append(of("a", "1"), at(4, v)); e != api.ErrOld {
				t.Error(e)
			}
		}
	}
}

func TestP9_1_RoomForSeries(t *testing.T) {
	for _, most := range []int{1, 2, 1000} {
		h := New(most, api.MaxSamples)
		for i := range most {
			fill(t, h, of("a", strconv.Itoa(i)), []api.Sample{at(7, 1)})
		}
		was := state(h)
		if e := h.Check(of("b", "1"), at(7, 1)); e != api.ErrFull {
			t.Error("Check", most, e)
		}
		if e := h.Append(of("b", "1"), at(7, 1)); e != api.ErrFull || h.Refused() != 1 || state(h) != was {
			t.Error("one more series", most, e)
		}
		// Those that are there go on.
		last := of("a", strconv.Itoa(most-1))
		for _, c := range []struct {
			s    api.Sample
			want api.Errno
		}{{at(6, 1), api.ErrOld}, {at(7, 1), api.OK}, {at(7, 2), api.ErrTwice}, {at(8, 1), api.OK}} {
			if e := h.Append(last, c.s); e != c.want {
				t.Error(most, c.s, e)
			}
		}
		if h.Len() != most || h.Samples() != most+1 {
			t.Error(h.Len(), h.Samples())
		}
		if h.Cut(8) != most || h.Len() != 1 {
			t.Error("Cut", h.Len())
		}
		if most > 1 {
			fill(t, h, of("b", "1"), []api.Sample{at(7, 1)})
		}
	}
}

func TestP9_1_RoomForSamples(t *testing.T) {
	for _, most := range []int{1, 2, 119, 120, 121, 241, 100000} {
		h := New(2, most)
		a := of("a", "1")
		fill(t, h, a, every(most))
		was := state(h)
		end := int64(10 * most)
		for _, c := range []struct {
			l    []api.Label
			s    api.Sample
			want api.Errno
		}{
			{a, at(end+1, 1), api.ErrFull}, {of("b", "1"), at(1, 1), api.ErrFull}, {a, at(end, float64((most-1)%7)), api.OK}, {a, at(end, -1), api.ErrTwice}, {a, at(end-1, 1), api.ErrOld},
			{nil, at(1, 1), api.ErrLabel}, {a, at(-1, 1), api.ErrArg}, {of("b", "1"), at(-1, 1), api.ErrArg},
		} {
			if e := h.Check(c.l, c.s); e != c.want {
				t.Error("Check", most, c.l, c.s, e)
			}
			if e := h.Append(c.l, c.s); e != c.want {
				t.Error("Append", most, c.l, c.s, e)
			}
		}
		if state(h) != was || h.Refused() != 7 || h.Samples() != most {
			t.Error("a refused sample is there", h.Refused(), h.Samples())
		}
		if h.Cut(11) != 1 {
			t.Error("Cut")
		}
		fill(t, h, of("b", "1"), []api.Sample{at(1, 1)})
		if e := h.Append(of("b", "1"), at(2, 1)); e != api.ErrFull {
			t.Error("full again", e)
		}
	}
}

func TestP9_2_Cut(t *testing.T) {
	for _, n := range []int{1, 2, 119, 120, 121, 239, 240, 241, 361} {
		// Times are 10, 20, ..: each place between, at and behind them.
		for before := int64(-5); before <= int64(10*n+15); before += 5 {
			h, m := New(3, 2000), &model{series: 3, samples: 2000}
			for _, s := range every(n) {
				h.Append(of("a", "1"), s)
				m.append(of("a", "1"), s)
			}
			late := at(int64(10*n+10), 1)
			h.Append(of("a", "2", "b", "1"), late)
			m.append(of("a", "2", "b", "1"), late)
			if got, want := h.Cut(before), m.cut(before); got != want {
				t.Fatal("Cut", n, before, got, want)
			}
			if n < 3 || n == 121 && before%20 == 0 || before == int64(10*n) {
				hold(t, h, m)
			}
			if h.Cut(before) != 0 || h.Samples() != m.count() {
				t.Fatal("Cut again", n, before)
			}
			// What comes behind goes on behind it.
			next := at(int64(10*n+20), 2)
			if e, want := h.Append(of("a", "1"), next), m.append(of("a", "1"), next); e != want {
				t.Fatal("Append", n, before, e, want)
			}
			got, ok := h.Get(of("a", "1"))
			if !ok || !sameSamples(got, m.all[m.find(of("a", "1"))].Samples) {
				t.Fatal("Get", n, before)
			}
		}
	}
}

func TestP9_2_CutEdges(t *testing.T) {
	h := New(10, 10)
	for _, before := range []int64{math.MinInt64, -1, 0, 1, math.MaxInt64} {
		if h.Cut(before) != 0 {
			t.Error("Cut of none", before)
		}
	}
	fill(t, h, of("a", "1"), []api.Sample{at(0, 1), at(5, 2), at(1<<50, 3)})
	was := state(h)
	for _, before := range []int64{math.MinInt64, -1, 0} {
		if h.Cut(before) != 0 || state(h) != was {
			t.Error("Cut below all", before)
		}
	}
	if h.Cut(1) != 1 || h.Cut(5) != 0 || h.Cut(6) != 1 || h.Cut(1<<50) != 0 || h.Samples() != 1 || h.Len() != 1 {
		t.Error("Cut between", h.Samples())
	}
	if h.Cut(math.MaxInt64) != 1 || h.Samples() != 0 || h.Len() != 0 {
		t.Error("Cut above all")
	}
}

func TestP9_2_ComesAgain(t *testing.T) {
	h := New(2, 10)
	a := of("a", "1", "b", "2")
	fill(t, h, a, []api.Sample{at(100, 1), at(200, 2)})
	fill(t, h, of("a", "2"), []api.Sample{at(300, 1)})
	if h.Cut(150) != 1 {
		t.Error("Cut")
	}
	if e := h.Append(a, at(150, 1)); e != api.ErrOld {
		t.Error("a series that is there", e)
	}
	if h.Cut(201) != 1 || h.Len() != 1 {
		t.Error("Cut")
	}
	if _, ok := h.Get(a); ok || len(h.Values("b")) != 0 || slices.Contains(h.Names(), "b") || !slices.Equal(h.Values("a"), []string{"2"}) {
		t.Error("it is not gone", h.Names())
	}
	// It is new: any time is fine, and it takes the room of a new series.
	fill(t, h, a, []api.Sample{at(5, 7)})
	if got, ok := h.Get(a); !ok || !sameSamples(got, []api.Sample{at(5, 7)}) {
		t.Error(got, ok)
	}
	if l, e := h.Select([]api.Matcher{{Op: api.MEq, Name: "b", Value: "2"}}); e != api.OK || len(l) != 1 {
		t.Error(l, e)
	}
	if e := h.Append(of("a", "3"), at(1, 1)); e != api.ErrFull {
		t.Error(e)
	}
	if h.Refused() != 2 {
		t.Error("Cut does not touch Refused", h.Refused())
	}
}

func TestP9_3_Get(t *testing.T) {
	h := New(10, 100)
	fill(t, h, of("a", "1"), []api.Sample{at(1, 1), at(2, stale), at(3, minusZero), at(4, theNaN), at(9, otherNaN)})
	fill(t, h, of("a", "1", "b", "1"), []api.Sample{at(1, 5)})
	got, ok := h.Get(of("a", "1"))
	if !ok || !sameSamples(got, []api.Sample{at(1, 1), at(2, stale), at(3, minusZero), at(4, theNaN), at(9, otherNaN)}) {
		t.Error(got, ok)
	}
	for _, l := range [][]api.Label{nil, {}, of("a", "2"), of("b", "1"), of("b", "1", "a", "1"), of("a", "1", "b", "2"), of("a", "1", "c", "1"), of("a", "1", "b", "1", "c", "1"), of("a", ""), of("", ""), of("a1", ""), of("a", "1", "a", "1"), of("a", "\xff")} {
		if got, ok := h.Get(l); ok || len(got) != 0 {
			t.Error("Get", l, got, ok)
		}
	}
}

// Two sets may have one hash: they are two.
func TestP9_3_OneHash(t *testing.T) {
	a, b := of("a", "wMHBwUJL1Ab"), of("a", "6ME0uiKqjPh")
	if labels.Hash(a) != labels.Hash(b) {
		t.Fatal("they have two")
	}
	h := New(10, 10)
	fill(t, h, a, []api.Sample{at(5, 1)})
	if _, ok := h.Get(b); ok {
		t.Error("Get")
	}
	fill(t, h, b, []api.Sample{at(3, 2)})
	if h.Len() != 2 || h.Cut(5) != 1 {
		t.Error("Len", h.Len())
	}
	if got, ok := h.Get(a); !ok || !sameSamples(got, []api.Sample{at(5, 1)}) {
		t.Error(got, ok)
	}
}

// shop: a head with series that have some labels, others not, laid in no order.
func shop(t *testing.T) (*Head, *model) {
	h, m := New(100, 1000), &model{series: 100, samples: 1000}
	sets := [][]api.Label{
		of("job", "b"), of("__name__", "up", "job", "a"), of("__name__", "up", "job", "b"), of("__name__", "down"), of("job", "a", "x", "1"), of("job", "a"), of("x", "é"), of("job", "ab"), of("a", "1"), of("__name__", "up"), of("job", "a", "x", "2"),
	}
	for i, l := range sets {
		for _, s := range every(i + 1) {
			h.Append(l, s)
			m.append(l, s)
		}
	}
	hold(t, h, m)
	return h, m
}

func TestP9_3_Select(t *testing.T) {
	h, m := shop(t)
	var ms []api.Matcher
	for _, name := range []string{"job", "x", "__name__", "nobody"} {
		for _, v := range []string{"", "a", "b", "a|b", ".*", ".+", "1", "é", "up"} {
			for op := api.MEq; op <= api.MNre; op++ {
				ms = append(ms, api.Matcher{Op: op, Name: name, Value: v})
			}
		}
	}
	for _, a := range ms {
		lists := [][]api.Matcher{{a}}
		for _, b := range ms {
			lists = append(lists, []api.Matcher{a, b})
		}
		for _, l := range lists {
			got, e := h.Select(l)
			want, _ := m.selected(l)
			if e != api.OK || !same(got, want) {
				t.Fatalf("Select(%v) = %v %d, not %v", l, got, e, want)
			}
		}
	}
	if l, e := h.Select([]api.Matcher{}); e != api.OK || len(l) != 11 {
		t.Error(l, e)
	}
}

func TestP9_3_SelectFaults(t *testing.T) {
	h, m := shop(t)
	right := api.Matcher{Op: api.MEq, Name: "job", Value: "a"}
	for _, c := range []struct {
		m    api.Matcher
		want api.Errno
	}{
		{api.Matcher{Op: 0, Name: "a"}, api.ErrOp}, {api.Matcher{Op: 5, Name: "a"}, api.ErrOp}, {api.Matcher{Op: api.MEq, Name: ""}, api.ErrName}, {api.Matcher{Op: api.MRe, Name: "1", Value: "("}, api.ErrName},
		{api.Matcher{Op: api.MEq, Name: "a", Value: "\xff"}, api.ErrUtf}, {api.Matcher{Op: api.MNe, Name: "a", Value: strings.Repeat("a", 257)}, api.ErrSize}, {api.Matcher{Op: api.MRe, Name: "a", Value: "("}, api.ErrRegex},
		{api.Matcher{Op: api.MNre, Name: "a", Value: strings.Repeat("(", 51)}, api.ErrDeep}, {api.Matcher{Op: api.MRe, Name: "a", Value: "(a{99}){99}"}, api.ErrLarge},
	} {
		for _, l := range [][]api.Matcher{{c.m}, {right, c.m}, {c.m, right}, {right, c.m, {Op: 9}}, {{Op: api.MEq, Name: "nobody", Value: "there"}, c.m}} {
			if got, e := h.Select(l); e != c.want || got != nil {
				t.Error("Select", l, got, e)
			}
		}
	}
	// As many as there may be, and one more: that is told ahead of what is wrong of one.
	sixteen := slices.Repeat([]api.Matcher{right}, 16)
	want, _ := m.selected(sixteen)
	if got, e := h.Select(sixteen); e != api.OK || !same(got, want) || len(got) != 4 {
		t.Error(got, e)
	}
	for _, l := range [][]api.Matcher{append(slices.Clone(sixteen), right), slices.Repeat([]api.Matcher{{}}, 17), slices.Repeat([]api.Matcher{right}, 1000)} {
		if got, e := h.Select(l); e != api.ErrSize || got != nil {
			t.Error(len(l), got, e)
		}
	}
	hold(t, h, m)
}

func TestP9_3_All(t *testing.T) {
	h, m := shop(t)
	all := h.All()
	want, _ := m.selected(nil)
	for n := range 12 {
		// Left early, it tells the same when it is gone through again.
		var some []api.Series
		for s := range all {
			if len(some) == n {
				break
			}
			some = append(some, s)
		}
		if !same(some, want[:min(n, len(want))]) {
			t.Error(n, some)
		}
	}
	for range 2 {
		if !same(slices.Collect(all), want) {
			t.Error("gone through again")
		}
	}
	// It tells what was there when it was asked.
	h.Append(of("z", "1"), at(1, 1))
	h.Append(of("job", "b"), at(1000, 1))
	h.Cut(15)
	if !same(slices.Collect(all), want) {
		t.Error("it tells what came later")
	}
	// What is done to the head within the loop does not matter to it.
	m.append(of("z", "1"), at(1, 1))
	m.append(of("job", "b"), at(1000, 1))
	m.cut(15)
	want, _ = m.selected(nil)
	i := 0
	for s := range h.All() {
		if !same([]api.Series{s}, want[i:i+1]) {
			t.Error("within a loop", s)
		}
		i++
		h.Cut(math.MaxInt64)
	}
	if i != len(want) || h.Len() != 0 {
		t.Error(i, h.Len())
	}
}

func TestP9_3_Names(t *testing.T) {
	h, _ := shop(t)
	if l := h.Names(); !slices.Equal(l, []string{"__name__", "a", "job", "x"}) {
		t.Error(l)
	}
	for name, want := range map[string][]string{"job": {"a", "ab", "b"}, "x": {"1", "2", "é"}, "__name__": {"down", "up"}, "nobody": nil, "": nil, "\xff": nil, "A": nil} {
		if l := h.Values(name); !slices.Equal(l, want) {
			t.Error(name, l)
		}
	}
	empty := New(1, 1)
	if len(empty.Names()) != 0 || len(empty.Values("a")) != 0 {
		t.Error("of none")
	}
}

func TestP9_3_Span(t *testing.T) {
	h := New(10, 1000)
	span := func(first, last int64, some bool) {
		t.Helper()
		if f, l, s := h.Span(); f != first || l != last || s != some {
			t.Error(f, l, s)
		}
	}
	span(0, 0, false)
	fill(t, h, of("a", "1"), []api.Sample{at(50, 1)})
	span(50, 50, true)
	fill(t, h, of("a", "2"), []api.Sample{at(7, 1), at(20, 1)})
	span(7, 50, true)
	fill(t, h, of("a", "3"), []api.Sample{at(0, 1), at(1<<50, 1)})
	span(0, 1<<50, true)
	h.Cut(20)
	span(20, 1<<50, true)
	h.Cut(1 << 50)
	span(1<<50, 1<<50, true)
	h.Cut(1<<50 + 1)
	span(0, 0, false)
	fill(t, h, of("a", "1"), every(240))
	span(10, 2400, true)
	h.Cut(1201)
	span(1210, 2400, true)
}

func TestP9_4_Counted(t *testing.T) {
	h := New(1, 2)
	if h.Len() != 0 || h.Samples() != 0 || h.Refused() != 0 {
		t.Error("a new head")
	}
	a := of("a", "1")
	fill(t, h, a, []api.Sample{at(5, 1)})
	for i, c := range []struct {
		l    []api.Label
		s    api.Sample
		want api.Errno
	}{{nil, at(1, 1), api.ErrLabel}, {a, at(-1, 1), api.ErrArg}, {a, at(4, 1), api.ErrOld}, {a, at(5, 2), api.ErrTwice}, {of("a", "2"), at(1, 1), api.ErrFull}} {
		// Check is not counted, Append is, once.
		for range 3 {
			if e := h.Check(c.l, c.s); e != c.want || h.Refused() != int64(i) {
				t.Error("Check", e, h.Refused())
			}
		}
		if e := h.Append(c.l, c.s); e != c.want || h.Refused() != int64(i+1) {
			t.Error("Append", e, h.Refused())
		}
	}
	h.Append(a, at(5, 1))
	h.Select(make([]api.Matcher, 17))
	h.Crowd(nil, 9)
	h.Cut(100)
	if h.Refused() != 5 || h.Len() != 0 || h.Samples() != 0 {
		t.Error(h.Refused(), h.Len(), h.Samples())
	}
}

func TestNil(t *testing.T) {
	var h *Head
	if h.Append(of("a", "1"), at(1, 1)) != api.ErrNil || h.Append(nil, at(-1, 1)) != api.ErrNil || h.Check(of("a", "1"), at(1, 1)) != api.ErrNil || h.Check(nil, at(-1, 1)) != api.ErrNil {
		t.Error("Append, Check")
	}
	if l, e := h.Select(nil); l != nil || e != api.ErrNil {
		t.Error("Select", l, e)
	}
	if l, e := h.Select(make([]api.Matcher, 17)); l != nil || e != api.ErrNil {
		t.Error("Select", l, e)
	}
	for _, n := range []int{-1, 0, 1, 8, 9} {
		if l, ok, e := h.Crowd([]api.Series{{Labels: of("a", "1"), Samples: every(3)}}, n); l != nil || ok || e != api.ErrNil {
			t.Error("Crowd", l, ok, e)
		}
	}
	if h.Cut(5) != 0 || h.Cut(math.MaxInt64) != 0 || h.Len() != 0 || h.Samples() != 0 || h.Refused() != 0 || len(h.Names()) != 0 || len(h.Values("a")) != 0 {
		t.Error("numbers and lists")
	}
	if l, ok := h.Get(of("a", "1")); l != nil || ok {
		t.Error("Get", l, ok)
	}
	if f, l, ok := h.Span(); f != 0 || l != 0 || ok {
		t.Error("Span", f, l, ok)
	}
	for s := range h.All() {
		t.Error("All", s)
	}
}

// A head that New has not made has no room.
func TestZero(t *testing.T) {
	h := &Head{}
	if e := h.Append(of("a", "1"), at(1, 1)); e != api.ErrFull {
		t.Error(e)
	}
	if e := h.Append(nil, at(1, 1)); e != api.ErrLabel {
		t.Error(e)
	}
	if l, ok, e := h.Crowd([]api.Series{{Labels: of("a", "1"), Samples: every(2)}}, 2); !slices.Equal(l, []api.Errno{api.ErrFull, api.ErrFull}) || !ok || e != api.OK {
		t.Error(l, ok, e)
	}
	if h.Cut(9) != 0 {
		t.Error("Cut")
	}
	hold(t, h, &model{refused: 4})
}

func TestP9_5_Random(t *testing.T) {
	sets := [][]api.Label{of("a", "1"), of("a", "2"), of("a", "1", "b", "1"), of("b", "1"), of("b", "2", "c", "x"), of("__name__", "up", "a", "1"), nil, of("b", "1", "a", "1"), of("a", "")}
	floats := []float64{0, minusZero, 1, 2, stale, theNaN, otherNaN, math.Inf(1)}
	ms := []api.Matcher{{Op: api.MEq, Name: "a", Value: "1"}, {Op: api.MNe, Name: "b", Value: ""}, {Op: api.MRe, Name: "a", Value: "1|2"}, {Op: api.MNre, Name: "c", Value: "x.*"}, {Op: api.MEq, Name: "c", Value: ""}, {Op: api.MRe, Name: "a", Value: "("}, {Op: 7, Name: "a"}}
	for seed := range int64(60) {
		r := rand.New(rand.NewSource(seed))
		most, room := 1+r.Intn(6), 1+r.Intn(400)
		h, m := New(most, room), &model{series: most, samples: room}
		now := int64(0)
		for range 600 {
			switch r.Intn(20) {
			case 0:
				before := now - int64(r.Intn(300))
				if got, want := h.Cut(before), m.cut(before); got != want {
					t.Fatal("Cut", before, got, want)
				}
			case 1:
				var l []api.Matcher
				for range r.Intn(3) {
					l = append(l, ms[r.Intn(len(ms))])
				}
				got, e := h.Select(l)
				want, f := m.selected(l)
				if e != f || !same(got, want) {
					t.Fatal("Select", l, got, e, want, f)
				}
			default:
				now += int64(r.Intn(3))
				l, s := sets[r.Intn(len(sets))], at(now-int64(r.Intn(3)*r.Intn(3)), floats[r.Intn(len(floats))])
				if got, want := h.Check(l, s), m.check(l, s); got != want {
					t.Fatal("Check", l, s, got, want)
				}
				if got, want := h.Append(l, s), m.append(l, s); got != want {
					t.Fatal("Append", l, s, got, want)
				}
			}
			if r.Intn(10) == 0 {
				hold(t, h, m)
			}
		}
		hold(t, h, m)
	}
}

func TestP9_6_Matchers(t *testing.T) {
	h, _ := shop(t)
	values := map[string][]string{}
	for s := range h.All() {
		for _, l := range s.Labels {
			values[l.Name] = append(values[l.Name], l.Value)
		}
	}
	for name, l := range values {
		slices.Sort(l)
		if !slices.Equal(h.Values(name), slices.Compact(l)) {
			t.Error("Values", name)
		}
	}
	ms := []api.Matcher{{Op: api.MNe, Name: "job", Value: "b"}, {Op: api.MRe, Name: "job", Value: "a.*"}, {Op: api.MEq, Name: "x", Value: ""}, {Op: api.MEq, Name: "job", Value: "a"}}
	before, _ := h.Select(nil)
	for i := range ms {
		l, e := h.Select(ms[:i+1])
		if e != api.OK {
			t.Fatal(e)
		}
		for _, s := range l {
			if !slices.ContainsFunc(before, func(b api.Series) bool { return same([]api.Series{b}, []api.Series{s}) }) {
				t.Error("one more matcher tells more", s)
			}
		}
		before = l
	}
	if len(before) != 2 {
		t.Error(before)
	}
}

func TestP9_7_Refused(t *testing.T) {
	h := New(2, 125)
	a := of("a", "1")
	fill(t, h, a, every(123))
	fill(t, h, of("b", "1"), []api.Sample{at(5, 1), at(6, 1)})
	was := state(h)
	l := wrongSets()
	n := int64(0)
	for _, c := range []struct {
		l []api.Label
		s api.Sample
	}{{a, at(1, 1)}, {a, at(1230, 99)}, {a, at(1240, 1)}, {a, at(-1, 1)}, {of("c", "1"), at(1, 1)}, {l["twice"], at(1, 1)}, {l["nil"], at(1, 1)}} {
		if h.Append(c.l, c.s) == api.OK {
			t.Error("it is taken", c)
		}
		n++
		if state(h) != was || h.Refused() != n {
			t.Error("it changes the head", c)
		}
	}
}

// What is handed in is neither changed nor kept, what is answered nobody else sees.
func TestMemory(t *testing.T) {
	h := New(10, 1000)
	l := of("a", "1", "b", "2")
	fill(t, h, l, every(130))
	if !slices.Equal(l, of("a", "1", "b", "2")) {
		t.Error("it is changed")
	}
	fill(t, h, of("c", "3"), every(5))
	was := state(h)
	l[0] = api.Label{Name: "z", Value: "z"}
	if state(h) != was {
		t.Error("it is kept")
	}
	spoil := func(s api.Series) {
		for i := range s.Labels {
			s.Labels[i] = api.Label{Name: "x", Value: "x"}
		}
		for i := range s.Samples {
			s.Samples[i] = at(-7, 7)
		}
		_ = append(s.Labels, of("y", "y")...)
		_ = append(s.Samples, at(-8, 8))
	}
	all := h.All()
	for s := range all {
		spoil(s)
	}
	some, _ := h.Select([]api.Matcher{{Op: api.MNe, Name: "nobody", Value: "x"}})
	for _, s := range some {
		spoil(s)
	}
	got, _ := h.Get(of("a", "1", "b", "2"))
	spoil(api.Series{Samples: got})
	for _, texts := range [][]string{h.Names(), h.Values("a"), h.Values("c")} {
		for i := range texts {
			texts[i] = "spoilt"
		}
		_ = append(texts, "spoilt")
	}
	if state(h) != was {
		t.Error("what is written into an answer is seen")
	}
	for s := range all {
		if len(s.Samples) == 0 || s.Samples[0].T == -7 || s.Labels[0].Name == "x" {
			t.Error("it is seen by the same iterator")
		}
	}
	ms := []api.Matcher{{Op: api.MEq, Name: "c", Value: "3"}, {Op: api.MRe, Name: "a", Value: ".*"}}
	keep := slices.Clone(ms)
	h.Select(ms)
	if !slices.Equal(ms, keep) {
		t.Error("Select changes its matchers")
	}
	// One series' samples do not run into the next one's.
	a, _ := h.Select(nil)
	_ = append(a[0].Samples, at(1, 1))
	_ = append(a[0].Labels, of("q", "q")...)
	if b, _ := h.Select(nil); !same(a, b) {
		t.Error("two lists of one answer share memory")
	}
}

func FuzzHead(f *testing.F) {
	f.Add([]byte{1, 2, 3, 4, 5, 6, 7, 8, 9, 250, 251, 252})
	f.Add([]byte("series in memory"))
	f.Fuzz(func(t *testing.T, b []byte) {
		h, m := New(3, 130), &model{series: 3, samples: 130}
		sets := [][]api.Label{of("a", "1"), of("a", "1", "b", "1"), of("b", "1"), of("c", "1"), nil}
		now := int64(0)
		for i, x := range b[:min(len(b), 1000)] {
			switch {
			case x >= 250:
				if got, want := h.Cut(now-int64(x-250)*9), m.cut(now-int64(x-250)*9); got != want {
					t.Fatal("Cut", i, got, want)
				}
			default:
				now += int64(x >> 6)
				l, s := sets[int(x)%len(sets)], at(now-int64(x>>3&1), float64(x&1))
				if got, want := h.Append(l, s), m.append(l, s); got != want {
					t.Fatal("Append", i, got, want)
				}
			}
		}
		hold(t, h, m)
	})
}
