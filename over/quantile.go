package over

import (
	"cmp"
	"math"
	"slices"
)

// Quantile answers the quantile q of values, in any order.
func Quantile(q float64, l []float64) float64 {
	switch {
	case len(l) == 0 || math.IsNaN(q):
		return math.Float64frombits(theNaN)
	case q < 0:
		return math.Inf(-1)
	case q > 1:
		return math.Inf(1)
	}
	rising := slices.Clone(l)
	slices.SortFunc(rising, compareValues)
	// The conversions keep products from being one operation with sums.
	k := float64(q * float64(len(l)-1))
	i := int(k)
	j := min(i+1, len(l)-1)
	w := k - float64(i)
	return told(float64(rising[i]*(1-w)) + float64(rising[j]*w))
}

// compareValues: what is no number is ahead of all others, and -0 ahead of 0.
func compareValues(a, b float64) int {
	if a == 0 && b == 0 {
		return cmp.Compare(math.Copysign(1, a), math.Copysign(1, b))
	}
	return cmp.Compare(a, b)
}
