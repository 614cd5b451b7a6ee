package aggr

import (
	"cmp"
	"math"
	"slices"

	"tocsin/api"
)

func valuesOf(points []api.Point) values {
	v := make(values, 0, len(points))
	for _, p := range points {
		v = append(v, p.V)
	}
	return v
}

// first answers as many points of a group, which rise, as k says: those with the greatest, or the least, values.
func first(points []api.Point, greatest bool, k float64) []api.Point {
	out := slices.Clone(points)
	// Points of one value stay in the order of their label sets; to cmp what is no number is the least.
	slices.SortStableFunc(out, func(a, b api.Point) int {
		if greatest || math.IsNaN(a.V) || math.IsNaN(b.V) {
			return cmp.Compare(b.V, a.V)
		}
		return cmp.Compare(a.V, b.V)
	})
	return out[:howMany(k, len(out))]
}

// howMany tells how many of n points k says: its fraction is left out.
func howMany(k float64, n int) int {
	switch {
	case k >= float64(n):
		return n
	case k >= 1:
		return int(k)
	}
	return 0
}
