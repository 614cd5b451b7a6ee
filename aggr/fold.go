package aggr

import (
	"cmp"
	"math"
	"slices"
)

// theNaN is its bits.
const theNaN = 0x7ff8000000000001

// values are those of a group, at least one, in the order of its label sets.
type values []float64

// fold is what a word makes of values and a parameter.
type fold struct {
	word string
	of   func(v values, param float64) float64
}

func folds() []fold {
	return []fold{
		{"avg", values.average},
		{"count", values.count},
		{"group", values.one},
		{"max", values.greatest},
		{"min", values.least},
		{"quantile", values.quantile},
		{"stddev", values.deviation},
		{"stdvar", values.variance},
		{"sum", values.sum},
	}
}

// comesTo answers what a word makes of values, as soon as it is given a parameter; false, if there is no such word.
func comesTo(word string, v values) (func(param float64) float64, bool) {
	for _, f := range folds() {
		if f.word == word {
			return func(param float64) float64 { return told(f.of(v, param)) }, true
		}
	}
	return nil, false
}

// told answers v, and the NaN for each other one that is no number.
func told(v float64) float64 {
	if math.IsNaN(v) {
		return math.Float64frombits(theNaN)
	}
	return v
}

// sum begins with the first value, since 0 and -0 would be 0.
func (v values) sum(float64) float64 {
	all := v[0]
	for _, x := range v[1:] {
		all += x
	}
	return all
}

func (v values) average(param float64) float64 {
	return v.sum(param) / v.count(param)
}

func (v values) count(float64) float64 {
	return float64(len(v))
}

func (v values) one(float64) float64 {
	return 1
}

func (v values) least(float64) float64 {
	there := v[0]
	for _, x := range v[1:] {
		if x < there || math.IsNaN(there) {
			there = x
		}
	}
	return there
}

func (v values) greatest(float64) float64 {
	there := v[0]
	for _, x := range v[1:] {
		if x > there || math.IsNaN(there) {
			there = x
		}
	}
	return there
}

func (v values) variance(param float64) float64 {
	mean := v.average(param)
	squares := make(values, 0, len(v))
	for _, x := range v {
		d := x - mean
		// The conversion keeps the product from being one operation with the sum.
		squares = append(squares, float64(d*d))
	}
	return squares.average(param)
}

func (v values) deviation(param float64) float64 {
	return math.Sqrt(v.variance(param))
}

func (v values) quantile(q float64) float64 {
	switch {
	case math.IsNaN(q):
		return q
	case q < 0:
		return math.Inf(-1)
	case q > 1:
		return math.Inf(1)
	}
	rising := slices.Clone(v)
	slices.SortFunc(rising, compareValues)
	// The conversions keep products from being one operation with sums.
	k := float64(q * float64(len(v)-1))
	i := int(k)
	j := min(i+1, len(v)-1)
	w := k - float64(i)
	return float64(rising[i]*(1-w)) + float64(rising[j]*w)
}

// compareValues: what is no number is ahead of all others, and -0 ahead of 0.
func compareValues(a, b float64) int {
	if a == 0 && b == 0 {
		return cmp.Compare(math.Copysign(1, a), math.Copysign(1, b))
	}
	return cmp.Compare(a, b)
}
