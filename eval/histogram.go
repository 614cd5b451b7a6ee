package eval

import (
	"cmp"
	"math"
	"slices"

	"tocsin/aggr"
	"tocsin/api"
	"tocsin/expo"
	"tocsin/labels"
	"tocsin/store"
	"tocsin/vec"
)

// boundName is the label whose value is the bound that the values counted in a bucket are not above.
const boundName = "le"

// bucket is a bound, and how many values are not above it.
type bucket struct{ bound, count float64 }

func histogramQuantile(a asked) (api.Value, api.Errno) {
	q := a.arg(0).V
	bounded := slices.DeleteFunc(slices.Clone(a.points(1)), func(p api.Point) bool {
		_, is := boundOf(p)
		return !is
	})
	groups, e := aggr.Groups(bounded, []string{boundName}, true)
	if e != api.OK {
		return api.Value{}, e
	}
	var out []api.Point
	for _, g := range groups {
		set, _ := labels.Without(g[0].Labels, boundName, metricName)
		out = append(out, api.Point{Labels: set, V: told(ofBuckets(q, buckets(g)))})
	}
	return vector(vec.Vector(out))
}

// boundOf answers the bound of a point; false, if it has none that is a number.
func boundOf(p api.Point) (float64, bool) {
	v, e := expo.Float(labels.Get(p.Labels, boundName))
	return v, e == api.OK && !math.IsNaN(v)
}

// buckets answers the buckets of a group, rising by their bounds, none counting less than the one ahead of it.
func buckets(group []api.Point) []bucket {
	var all []bucket
	for _, p := range group {
		bound, _ := boundOf(p)
		all = append(all, bucket{bound, p.V})
	}
	// Those of one bound stay in the order of their label sets, in which they are summed up.
	slices.SortStableFunc(all, func(a, b bucket) int { return cmp.Compare(a.bound, b.bound) })
	var out []bucket
	for _, b := range all {
		if n := len(out); n > 0 && out[n-1].bound == b.bound {
			out[n-1].count += b.count
		} else {
			out = append(out, b)
		}
	}
	for i := 1; i < len(out); i++ {
		if ahead := out[i-1].count; out[i].count < ahead || math.IsNaN(out[i].count) {
			out[i].count = ahead
		}
	}
	return out
}

// ofBuckets answers the quantile q of what is counted in buckets.
func ofBuckets(q float64, l []bucket) float64 {
	last := len(l) - 1
	switch {
	case last < 1 || !math.IsInf(l[last].bound, 1) || l[last].count == 0:
		return math.Float64frombits(store.NaN)
	case q < 0:
		return math.Inf(-1)
	case q > 1:
		return math.Inf(1)
	case math.IsNaN(q):
		return q
	}
	// The conversions keep products from being one operation with sums.
	rank := float64(q * l[last].count)
	at := slices.IndexFunc(l[:last], func(b bucket) bool { return b.count >= rank })
	switch {
	case at < 0:
		return l[last-1].bound
	case at == 0 && !(l[0].bound > 0):
		return l[0].bound
	}
	var ahead bucket
	if at > 0 {
		ahead = l[at-1]
	}
	b := l[at]
	return ahead.bound + float64((b.bound-ahead.bound)*((rank-ahead.count)/(b.count-ahead.count)))
}
