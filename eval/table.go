package eval

import (
	"slices"

	"tocsin/api"
	"tocsin/labels"
)

// table has what an expression comes to from time to time, a row for each label set.
type table struct {
	places map[string]int // which row a label set has
	rows   []api.Series
	count  int // how many samples were put
}

func newTable() *table {
	return &table{places: map[string]int{}}
}

// put lays a scalar or a vector behind what is there. What is beyond a limit is not kept, since no answer will tell it.
func (t *table) put(at int64, v api.Value) {
	points := v.Points
	if v.Kind == api.VScalar {
		points = []api.Point{{V: v.V}}
	}
	for _, p := range points {
		if len(t.rows) > api.MaxSeries {
			return
		}
		row := t.row(p.Labels)
		t.count++
		if t.count <= api.MaxSamples {
			row.Samples = append(row.Samples, api.Sample{T: at, V: p.V})
		}
	}
}

// row answers the row of a label set, which is there from now on.
func (t *table) row(set []api.Label) *api.Series {
	b, _ := labels.Put(nil, set)
	at, there := t.places[string(b)]
	if !there {
		at = len(t.rows)
		t.places[string(b)] = at
		t.rows = append(t.rows, api.Series{Labels: set})
	}
	return &t.rows[at]
}

// series answers the rows, rising by their label sets.
func (t *table) series() ([]api.Series, api.Errno) {
	switch {
	case len(t.rows) > api.MaxSeries:
		return nil, api.ErrFull
	case t.count > api.MaxSamples:
		return nil, api.ErrLarge
	}
	slices.SortFunc(t.rows, func(a, b api.Series) int { return labels.Compare(a.Labels, b.Labels) })
	return t.rows, api.OK
}
