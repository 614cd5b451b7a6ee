package head

import (
	"fmt"
	"math"
	"slices"
	"sort"
	"strings"
	"testing"

	"tocsin/api"
	"tocsin/labels"
	"tocsin/match"
)

// model is a head by the words of the document: a list of series, gone through from the beginning.
type model struct {
	series, samples int
	all             []api.Series
	refused         int64
}

func (m *model) find(l []api.Label) int {
	return slices.IndexFunc(m.all, func(s api.Series) bool { return slices.Equal(s.Labels, l) })
}

func (m *model) count() int {
	n := 0
	for _, s := range m.all {
		n += len(s.Samples)
	}
	return n
}

func (m *model) check(l []api.Label, s api.Sample) api.Errno {
	if e, _ := labels.Right(l); e != api.OK || len(l) == 0 {
		return api.ErrLabel
	}
	if s.T < 0 || s.T > 1<<50 {
		return api.ErrArg
	}
	i := m.find(l)
	if i >= 0 {
		last := m.all[i].Samples[len(m.all[i].Samples)-1]
		if s.T < last.T {
			return api.ErrOld
		}
		if s.T == last.T {
			if math.Float64bits(s.V) != math.Float64bits(last.V) {
				return api.ErrTwice
			}
			return api.OK
		}
	}
	if i < 0 && len(m.all) >= m.series {
		return api.ErrFull
	}
	if m.count() >= m.samples {
		return api.ErrFull
	}
	return api.OK
}

func (m *model) append(l []api.Label, s api.Sample) api.Errno {
	e := m.check(l, s)
	if e != api.OK {
		m.refused++
		return e
	}
	i := m.find(l)
	if i < 0 {
		m.all = append(m.all, api.Series{Labels: slices.Clone(l)})
		i = len(m.all) - 1
	}
	if n := len(m.all[i].Samples); n == 0 || m.all[i].Samples[n-1].T != s.T {
		m.all[i].Samples = append(m.all[i].Samples, s)
	}
	return api.OK
}

func (m *model) cut(before int64) int {
	was := m.count()
	var left []api.Series
	for _, s := range m.all {
		var some []api.Sample
		for _, one := range s.Samples {
			if one.T >= before {
				some = append(some, one)
			}
		}
		if len(some) > 0 {
			left = append(left, api.Series{Labels: s.Labels, Samples: some})
		}
	}
	m.all = left
	return was - m.count()
}

func (m *model) selected(ms []api.Matcher) ([]api.Series, api.Errno) {
	if len(ms) > 16 {
		return nil, api.ErrSize
	}
	for _, one := range ms {
		if e := match.New(one).Right(); e != api.OK {
			return nil, e
		}
	}
	var out []api.Series
	for _, s := range m.all {
		all := true
		for _, one := range ms {
			all = all && match.New(one).Value(labels.Get(s.Labels, one.Name))
		}
		if all {
			out = append(out, s)
		}
	}
	sort.Slice(out, func(i, j int) bool { return labels.Compare(out[i].Labels, out[j].Labels) < 0 })
	return out, api.OK
}

func (m *model) names() []string {
	var out []string
	for _, s := range m.all {
		for _, l := range s.Labels {
			out = append(out, l.Name)
		}
	}
	slices.Sort(out)
	return slices.Compact(out)
}

func (m *model) values(name string) []string {
	var out []string
	for _, s := range m.all {
		for _, l := range s.Labels {
			if l.Name == name {
				out = append(out, l.Value)
			}
		}
	}
	slices.Sort(out)
	return slices.Compact(out)
}

func (m *model) span() (int64, int64, bool) {
	var all []int64
	for _, s := range m.all {
		for _, one := range s.Samples {
			all = append(all, one.T)
		}
	}
	if len(all) == 0 {
		return 0, 0, false
	}
	return slices.Min(all), slices.Max(all), true
}

// told is a series as text, its values by their bits.
func told(s api.Series) string {
	var b strings.Builder
	fmt.Fprintf(&b, "%q:", s.Labels)
	for _, one := range s.Samples {
		fmt.Fprintf(&b, " %d %x", one.T, math.Float64bits(one.V))
	}
	return b.String()
}

func same(a, b []api.Series) bool {
	return slices.EqualFunc(a, b, func(x, y api.Series) bool {
		return slices.Equal(x.Labels, y.Labels) && sameSamples(x.Samples, y.Samples)
	})
}

func sameSamples(a, b []api.Sample) bool {
	return slices.EqualFunc(a, b, func(x, y api.Sample) bool {
		return x.T == y.T && math.Float64bits(x.V) == math.Float64bits(y.V)
	})
}

// hold holds all that the head tells against the model.
func hold(t *testing.T, h *Head, m *model) {
	t.Helper()
	if h.Len() != len(m.all) || h.Samples() != m.count() || h.Refused() != m.refused {
		t.Fatal("Len, Samples, Refused", h.Len(), h.Samples(), h.Refused(), "not", len(m.all), m.count(), m.refused)
	}
	want, _ := m.selected(nil)
	if all := slices.Collect(h.All()); !same(all, want) {
		t.Fatalf("All %v, not %v", all, want)
	}
	if all, e := h.Select(nil); e != api.OK || !same(all, want) {
		t.Fatalf("Select %v %d, not %v", all, e, want)
	}
	if !slices.Equal(h.Names(), m.names()) {
		t.Fatalf("Names %q, not %q", h.Names(), m.names())
	}
	for _, name := range append(m.names(), "nobody", "") {
		if !slices.Equal(h.Values(name), m.values(name)) {
			t.Fatalf("Values of %s: %q, not %q", name, h.Values(name), m.values(name))
		}
	}
	first, last, some := h.Span()
	f, l, s := m.span()
	if first != f || last != l || some != s {
		t.Fatal("Span", first, last, some, "not", f, l, s)
	}
	for _, s := range m.all {
		if got, ok := h.Get(s.Labels); !ok || !sameSamples(got, s.Samples) {
			t.Fatalf("Get(%q) %v %v, not %v", s.Labels, got, ok, s.Samples)
		}
	}
}
