package over

import (
	"fmt"
	"math"
	"math/big"
	"math/rand"
	"slices"
	"sort"
	"testing"

	"tocsin/api"
)

var (
	staleV    = math.Float64frombits(0x7ff0000000000002)
	nan       = math.Float64frombits(0x7ff8000000000001)
	otherNaN  = math.Float64frombits(0xfff8000000000123)
	nearNaN   = math.Float64frombits(0x7ff0000000000003)
	minusZero = math.Copysign(0, -1)
	inf       = math.Inf(1)
)

// names are those of the table, rising; noNames none of them.
var (
	names = []string{
		"avg_over_time", "changes", "count_over_time", "delta", "idelta", "increase", "irate", "last_over_time", "max_over_time",
		"min_over_time", "present_over_time", "quantile_over_time", "rate", "resets", "sum_over_time",
	}
	noNames = []string{"", "absent_over_time", "stddev_over_time", "deriv", "Rate", "rate ", " rate", "rat", "rates", "sum", "quantile", "_over_time", "sum_over_time\x00", "\xff", "RATE", "holt_winters"}
)

const second = 1000

func same(a, b float64) bool { return math.Float64bits(a) == math.Float64bits(b) }

func at(t int64, v float64) api.Sample { return api.Sample{T: t, V: v} }

// every answers samples of these values, ten seconds apart, the first one at 10 s.
func every(v ...float64) []api.Sample {
	var l []api.Sample
	for i, x := range v {
		l = append(l, at(int64(i+1)*10*second, x))
	}
	return l
}

func modelNaN(v float64) float64 {
	if v != v {
		return nan
	}
	return v
}

func finite(l ...float64) bool {
	return !slices.ContainsFunc(l, func(v float64) bool { return v-v != 0 })
}

// plus, times, by: rounded once, by big numbers, where these say it; others by float64.
func plus(a, b float64) float64 {
	if !finite(a, b) || a == 0 || b == 0 {
		return a + b
	}
	x, y := new(big.Float).SetPrec(4400).SetFloat64(a), new(big.Float).SetPrec(4400).SetFloat64(b)
	v, _ := x.Add(x, y).Float64() // of a sum that is 0: 0
	return v
}

func times(a, b float64) float64 {
	if !finite(a, b) || a == 0 || b == 0 {
		return a * b
	}
	x, y := new(big.Float).SetPrec(4400).SetFloat64(a), new(big.Float).SetPrec(4400).SetFloat64(b)
	v, _ := x.Mul(x, y).Float64()
	return v
}

func by(a, b float64) float64 {
	if !finite(a, b) || a == 0 || b == 0 {
		return a / b
	}
	x, y := new(big.Rat).SetFloat64(a), new(big.Rat).SetFloat64(b)
	v, _ := x.Quo(x, y).Float64()
	return v
}

func modelSum(v []float64) float64 {
	sum := v[0]
	for i := 1; i < len(v); i++ {
		sum = plus(sum, v[i])
	}
	return sum
}

func modelQuantile(q float64, v []float64) float64 {
	switch {
	case len(v) == 0 || q != q:
		return nan
	case q < 0:
		return -inf
	case q > 1:
		return inf
	}
	rising := []float64{}
	for _, kind := range []func(x float64) bool{
		math.IsNaN,
		func(x float64) bool { return x < 0 },
		func(x float64) bool { return x == 0 && math.Signbit(x) },
		func(x float64) bool { return x == 0 && !math.Signbit(x) },
		func(x float64) bool { return x > 0 },
	} {
		some := []float64{}
		for _, x := range v {
			if kind(x) {
				some = append(some, x)
			}
		}
		sort.Float64s(some)
		rising = append(rising, some...)
	}
	k := times(q, float64(len(v)-1))
	i := 0
	for float64(i+1) <= k {
		i++
	}
	j := i + 1
	if j > len(v)-1 {
		j = len(v) - 1
	}
	w := k - float64(i)
	return modelNaN(plus(times(rising[i], 1-w), times(rising[j], w)))
}

// modelSlope: delta, increase, rate, letter by letter as the chapter has them.
func modelSlope(name string, v []float64, ts []int64, from, to int64) float64 {
	n := len(v)
	counter := name != "delta"
	r := plus(v[n-1], -v[0])
	if counter {
		for i := 1; i < n; i++ {
			if v[i] < v[i-1] {
				r = plus(r, v[i-1])
			}
		}
	}
	s, e, w := by(float64(ts[0]-from), 1000), by(float64(to-ts[n-1]), 1000), by(float64(ts[n-1]-ts[0]), 1000)
	a := by(w, float64(n-1))
	x := times(a, 1.1)
	if counter && r > 0 && v[0] >= 0 {
		if z := times(w, by(v[0], r)); z < s {
			s = z
		}
	}
	y := w
	if s < x {
		y = plus(y, s)
	} else {
		y = plus(y, by(a, 2))
	}
	if e < x {
		y = plus(y, e)
	} else {
		y = plus(y, by(a, 2))
	}
	f := by(y, w)
	if name == "rate" {
		f = by(f, by(float64(to-from), 1000))
	}
	return times(r, f)
}

func modelPairs(name string, v []float64) float64 {
	count := 0
	for i := 1; i < len(v); i++ {
		a, b := v[i-1], v[i]
		switch {
		case name == "resets" && b < a:
			count++
		case name == "changes" && (a != a) != (b != b):
			count++
		case name == "changes" && a == a && b == b && a != b:
			count++
		}
	}
	return float64(count)
}

// modelCall: by the words of the chapter, each step rounded by itself.
func modelCall(name string, l []api.Sample, from, to int64, q float64) (float64, bool, api.Errno) {
	if !slices.Contains(names, name) {
		return 0, false, api.ErrOp
	}
	var v []float64
	var ts []int64
	for _, x := range l {
		if math.Float64bits(x.V) != 0x7ff0000000000002 {
			v, ts = append(v, x.V), append(ts, x.T)
		}
	}
	inBounds := func(t int64) bool { return t >= -1<<40 && t <= 1<<50 }
	if !inBounds(from) || !inBounds(to) || from >= to || to < 0 {
		return 0, false, api.ErrArg
	}
	for i, t := range ts {
		if i > 0 && t <= ts[i-1] || t <= from || t > to {
			return 0, false, api.ErrArg
		}
	}
	n := len(v)
	two := slices.Contains([]string{"delta", "increase", "rate", "irate", "idelta"}, name)
	if n == 0 || two && n == 1 {
		return 0, false, api.OK
	}
	value := 0.0
	switch name {
	case "sum_over_time":
		value = modelSum(v)
	case "avg_over_time":
		value = by(modelSum(v), float64(n))
	case "min_over_time", "max_over_time":
		numbers := slices.DeleteFunc(slices.Clone(v), math.IsNaN)
		if len(numbers) == 0 {
			return nan, true, api.OK
		}
		sort.SliceStable(numbers, func(i, j int) bool {
			if name == "min_over_time" {
				return numbers[i] < numbers[j]
			}
			return numbers[i] > numbers[j]
		})
		value = numbers[0]
	case "count_over_time":
		value = float64(n)
	case "last_over_time":
		value = v[n-1]
	case "present_over_time":
		value = 1
	case "quantile_over_time":
		value = modelQuantile(q, v)
	case "changes", "resets":
		value = modelPairs(name, v)
	case "delta", "increase", "rate":
		value = modelSlope(name, v, ts, from, to)
	case "irate", "idelta":
		value = plus(v[n-1], -v[n-2])
		if name == "irate" {
			if v[n-1] < v[n-2] {
				value = v[n-1]
			}
			value = by(value, by(float64(ts[n-1]-ts[n-2]), 1000))
		}
	}
	return modelNaN(value), true, api.OK
}

// check holds an answer against the model's.
func check(t testing.TB, name string, l []api.Sample, from, to int64, q float64) {
	t.Helper()
	want, is, e := modelCall(name, l, from, to, q)
	got, gis, ge := Call(name, l, from, to, q)
	if !same(got, want) || gis != is || ge != e {
		t.Fatalf("%s of %v, %d to %d, %g: %g (%x), %t, %d, not %g (%x), %t, %d", name, l, from, to, q, got, math.Float64bits(got), gis, ge, want, math.Float64bits(want), is, e)
	}
}

// someValues come again and again.
var someValues = []float64{0, 1, 2, 3, -1, 0.5, minusZero, inf, -inf, nan, otherNaN, nearNaN, staleV, 1e300, 5e-324, 0.1, 1.1, 1e16, -3}

func someValue(r *rand.Rand) float64 {
	switch r.Intn(8) {
	case 0:
		return math.Float64frombits(r.Uint64())
	case 1:
		return r.NormFloat64()
	case 2:
		return someValues[r.Intn(len(someValues))]
	}
	return float64(r.Intn(6))
}

// someWindow answers samples that rise, and a window about them; now and then with a fault.
func someWindow(r *rand.Rand) ([]api.Sample, int64, int64) {
	from := []int64{0, -1, -1 << 40, 1, 5000, 1 << 49, -5000, 1000}[r.Intn(8)]
	t := from + r.Int63n(int64(1)<<uint(r.Intn(20)))
	counter := r.Intn(3) == 0
	v := 0.0
	var l []api.Sample
	for range r.Intn(9) {
		t += 1 + r.Int63n(int64(1)<<uint(r.Intn(16)))
		if v += float64(r.Intn(10)); r.Intn(5) == 0 {
			v = float64(r.Intn(3))
		}
		if !counter {
			v = someValue(r)
		}
		l = append(l, at(t, v))
	}
	to := t + r.Int63n(int64(1)<<uint(r.Intn(18)))
	switch r.Intn(60) {
	case 0:
		to = r.Int63n(20000) - 10000
	case 1:
		from = r.Int63n(20000) - 10000
	case 2:
		r.Shuffle(len(l), func(i, j int) { l[i], l[j] = l[j], l[i] })
	case 3:
		from = -1<<40 - 1
	}
	if to == from && len(l) == 0 {
		to++
	}
	return l, from, to
}

func someParam(r *rand.Rand) float64 {
	if r.Intn(2) == 0 {
		return r.Float64()
	}
	return []float64{0, minusZero, 1, 0.25, 0.5, 0.75, -1, -5e-324, 1.0000000000000002, 0.9999999999999999, 2, inf, -inf, nan, staleV}[r.Intn(15)]
}

func told3(v float64, is bool, e api.Errno) string {
	return fmt.Sprintf("%g (%x) %t %d", v, math.Float64bits(v), is, e)
}
