package head

import (
	"iter"
	"maps"
	"slices"

	"tocsin/api"
	"tocsin/labels"
	"tocsin/match"
)

// index has, by names and then by values, the numbers of the series that have such a label.
type index map[string]map[string][]int

func (x index) put(l []api.Label, id int) {
	for _, one := range l {
		if x[one.Name] == nil {
			x[one.Name] = map[string][]int{}
		}
		x[one.Name][one.Value] = append(x[one.Name][one.Value], id)
	}
}

func (x index) drop(l []api.Label, id int) {
	for _, one := range l {
		values := x[one.Name]
		values[one.Value] = slices.DeleteFunc(values[one.Value], func(other int) bool { return other == id })
		// What no series has any more is told no more.
		if len(values[one.Value]) == 0 {
			delete(values, one.Value)
		}
		if len(values) == 0 {
			delete(x, one.Name)
		}
	}
}

// Get tells the samples of a series.
func (h *Head) Get(l []api.Label) ([]api.Sample, bool) {
	if h == nil {
		return nil, false
	}
	id, there := h.ids.Find(l)
	if !there {
		return nil, false
	}
	return h.series[id].samples(), true
}

// Select tells the series that all matchers match, rising by label set.
func (h *Head) Select(ms []api.Matcher) ([]api.Series, api.Errno) {
	switch {
	case h == nil:
		return nil, api.ErrNil
	case len(ms) > api.MaxMatchers:
		return nil, api.ErrSize
	}
	list, e, _ := match.Compile(ms)
	if e != api.OK {
		return nil, e
	}
	var out []api.Series
	for _, id := range h.candidates(ms) {
		l, _ := h.ids.Labels(id)
		if list.Labels(l) {
			out = append(out, api.Series{Labels: l, Samples: h.series[id].samples()})
		}
	}
	slices.SortFunc(out, func(a, b api.Series) int { return labels.Compare(a.Labels, b.Labels) })
	return out, api.OK
}

// candidates answers the numbers of the series that are worth a look: a matcher that asks for one value leaves those that have it.
func (h *Head) candidates(ms []api.Matcher) []int {
	for _, m := range ms {
		if m.Op == api.MEq && m.Value != "" {
			return h.index[m.Name][m.Value]
		}
	}
	return slices.Collect(maps.Keys(h.series))
}

// All tells the series that are there when it is asked, rising by label set.
func (h *Head) All() iter.Seq[api.Series] {
	all, _ := h.Select(nil)
	return func(yield func(api.Series) bool) {
		for _, s := range all {
			if !yield(api.Series{Labels: slices.Clone(s.Labels), Samples: slices.Clone(s.Samples)}) {
				return
			}
		}
	}
}

// Names tells the names of all labels, rising.
func (h *Head) Names() []string {
	if h == nil {
		return nil
	}
	return slices.Sorted(maps.Keys(h.index))
}

// Values tells the values of the labels of a name, rising.
func (h *Head) Values(name string) []string {
	if h == nil {
		return nil
	}
	return slices.Sorted(maps.Keys(h.index[name]))
}

// Span tells the first and the last time of all samples.
func (h *Head) Span() (int64, int64, bool) {
	if h.Len() == 0 {
		return 0, 0, false
	}
	lowest, highest := int64(api.MaxTime), int64(0)
	for _, l := range h.series {
		last, _ := l.last()
		lowest, highest = min(lowest, l.first()), max(highest, last.T)
	}
	return lowest, highest, true
}
