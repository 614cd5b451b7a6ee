package block

import (
	"iter"
	"maps"
	"slices"

	"tocsin/api"
	"tocsin/labels"
	"tocsin/match"
)

// postings has, by names and then by values, the numbers of the series that have such a label, rising.
type postings map[string]map[string][]int

func postingsOf(all []series) postings {
	p := postings{}
	for i, s := range all {
		for _, one := range s.labels {
			if p[one.Name] == nil {
				p[one.Name] = map[string][]int{}
			}
			p[one.Name][one.Value] = append(p[one.Name][one.Value], i)
		}
	}
	return p
}

// Names tells the names of all labels, rising.
func (b *Block) Names() []string {
	if b == nil {
		return nil
	}
	return slices.Sorted(maps.Keys(b.postings))
}

// Values tells the values of the labels of a name, rising.
func (b *Block) Values(name string) []string {
	if b == nil {
		return nil
	}
	return slices.Sorted(maps.Keys(b.postings[name]))
}

// Postings tells the numbers of the series that have a label; of the empty value, of those that have none of that name.
func (b *Block) Postings(name, value string) []int {
	if b == nil {
		return nil
	}
	b.asked.Add(1)
	if value != "" {
		return slices.Clone(b.postings[name][value])
	}
	var out []int
	for i, s := range b.series {
		if labels.Get(s.labels, name) == "" {
			out = append(out, i)
		}
	}
	return out
}

// Labels tells the label set of a series.
func (b *Block) Labels(i int) ([]api.Label, api.Errno) {
	switch {
	case b == nil:
		return nil, api.ErrNil
	case i < 0 || i >= len(b.series):
		return nil, api.ErrNone
	}
	return slices.Clone(b.series[i].labels), api.OK
}

// Series tells the samples of a series with times from from to to.
func (b *Block) Series(i int, from, to int64) ([]api.Sample, api.Errno) {
	if b == nil {
		return nil, api.ErrNil
	}
	b.asked.Add(1)
	if i < 0 || i >= len(b.series) {
		return nil, api.ErrNone
	}
	return b.series[i].samples(from, to), api.OK
}

// Select tells the series that all matchers match.
func (b *Block) Select(ms []api.Matcher) ([]api.Series, api.Errno) {
	if b == nil {
		return nil, api.ErrNil
	}
	b.asked.Add(1)
	list, e, _ := match.Compile(ms)
	if e != api.OK {
		return nil, e
	}
	var out []api.Series
	for s := range b.candidates(ms) {
		if list.Labels(s.labels) {
			out = append(out, s.whole())
		}
	}
	return out, api.OK
}

// candidates goes through the series that are worth a look, in order: a matcher that asks for one value leaves those that have it.
func (b *Block) candidates(ms []api.Matcher) iter.Seq[series] {
	for _, m := range ms {
		if m.Op == api.MEq && m.Value != "" {
			return b.those(b.postings[m.Name][m.Value])
		}
	}
	return slices.Values(b.series)
}

// those goes through the series of some numbers.
func (b *Block) those(numbers []int) iter.Seq[series] {
	return func(yield func(series) bool) {
		for _, i := range numbers {
			if !yield(b.series[i]) {
				return
			}
		}
	}
}

// All tells all series.
func (b *Block) All() iter.Seq[api.Series] {
	return func(yield func(api.Series) bool) {
		if b == nil {
			return
		}
		for _, s := range b.series {
			if !yield(s.whole()) {
				return
			}
		}
	}
}

// Asked tells how often Postings, Series and Select have been called.
func (b *Block) Asked() int64 {
	if b == nil {
		return 0
	}
	return b.asked.Load()
}
