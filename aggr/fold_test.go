package aggr

import (
	"math"
	"math/rand"
	"slices"
	"testing"

	"tocsin/api"
)

func TestP16_2_Fold(t *testing.T) {
	list := func(v ...float64) []float64 { return v }
	for _, x := range []struct {
		word string
		v    []float64
		want float64
	}{
		{"sum", list(2, 4), 6}, {"avg", list(2, 4), 3}, {"min", list(4, 2), 2}, {"max", list(2, 4), 4}, {"count", list(2, 4), 2}, {"group", list(2, 4), 1}, {"stdvar", list(2, 4), 1}, {"stddev", list(2, 4), 1}, {"stdvar", list(1, 2, 3, 4), 1.25}, {"stddev", list(1, 5), 2}, {"stddev", list(1, 2), 0.5},
		// One value.
		{"sum", list(5), 5}, {"avg", list(5), 5}, {"min", list(5), 5}, {"max", list(5), 5}, {"count", list(5), 1}, {"group", list(5), 1}, {"stdvar", list(5), 0}, {"stddev", list(5), 0},
		{"sum", list(minusZero), minusZero}, {"avg", list(minusZero), minusZero}, {"min", list(minusZero), minusZero}, {"max", list(minusZero), minusZero}, {"stdvar", list(minusZero), 0},
		// One after the other, from the first on, each step rounded.
		{"sum", list(1e16, 1, 1), 1e16}, {"sum", list(1, 1, 1e16), 1e16 + 2}, {"sum", list(1e16, 1, -1e16), 0}, {"sum", list(1e16, -1e16, 1), 1}, {"sum", list(0.1, 0.2, 0.3), 0.6000000000000001}, {"sum", list(0.3, 0.2, 0.1), 0.6}, {"sum", list(1e308, 1e308, -1e308), inf}, {"avg", list(1e308, 1e308), inf}, {"avg", list(0.1, 0.2, 0.3), 0.20000000000000004}, {"avg", list(1, 1, 2), 4 / 3.0},
		{"sum", list(minusZero, minusZero), minusZero}, {"sum", list(minusZero, 0), 0}, {"sum", list(0, minusZero), 0}, {"sum", list(1, -1), 0},
		{"stdvar", list(1e16, 1e16+2, 1e16+4), 8 / 3.0}, {"stdvar", list(0.1, 0.2, 0.7), 0.06888888888888887}, {"stddev", list(0.1, 0.2, 0.7), 0.262466929133727},
		// What is no number.
		{"sum", list(nan, 1), nan}, {"sum", list(1, stale), nan}, {"sum", list(1, otherNaN, 2), nan}, {"avg", list(stale), nan}, {"avg", list(1, otherNaN), nan}, {"stdvar", list(1, otherNaN), nan}, {"stddev", list(stale, 1), nan}, {"count", list(nan, stale, otherNaN), 3}, {"group", list(nan), 1},
		{"min", list(nan, 2, 1), 1}, {"min", list(2, stale, 1), 1}, {"min", list(2, 1, nan), 1}, {"min", list(otherNaN, nan, 3, nan), 3}, {"min", list(otherNaN), nan}, {"min", list(stale, otherNaN), nan}, {"max", list(nan, 2, 1), 2}, {"max", list(1, stale, 2), 2}, {"max", list(1, 2, nan), 2}, {"max", list(stale, 1, nan), 1}, {"max", list(stale), nan}, {"max", list(otherNaN, stale), nan}, {"min", list(nan, inf), inf}, {"max", list(nan, -inf), -inf},
		// Infinite ones.
		{"sum", list(inf, 1), inf}, {"sum", list(inf, -inf), nan}, {"sum", list(-inf, 1, -inf), -inf}, {"avg", list(inf, 1), inf}, {"min", list(inf, -inf, 0), -inf}, {"max", list(-inf, inf, 0), inf}, {"min", list(inf), inf}, {"stdvar", list(inf), nan}, {"stddev", list(inf, 1), nan}, {"stdvar", list(1e200, -1e200), inf}, {"stddev", list(1e200, -1e200), inf},
		// The first of 0 and -0 stays.
		{"min", list(0, minusZero), 0}, {"min", list(minusZero, 0), minusZero}, {"max", list(0, minusZero), 0}, {"max", list(minusZero, 0), minusZero},
	} {
		for _, param := range []float64{0, 0.5, -1, nan, inf} {
			if v, e := Fold(x.word, x.v, param); !same(v, x.want) || e != api.OK {
				t.Errorf("%s of %v: %g (%x), %d, not %g", x.word, x.v, v, math.Float64bits(v), e, x.want)
			}
		}
		checkFold(t, x.word, x.v, 0)
	}
}

func TestP16_2_Quantile(t *testing.T) {
	list := func(v ...float64) []float64 { return v }
	for _, x := range []struct {
		q    float64
		v    []float64
		want float64
	}{
		{0.5, list(2, 4, 5), 4}, {0.5, list(5, 2, 4), 4}, {0.5, list(1, 2), 1.5}, {0.5, list(2, 1), 1.5}, {0.25, list(1, 2), 1.25}, {0.75, list(0, 1, 2, 3, 4), 3}, {0.1, list(0, 10), 1}, {0.9, list(1, 2, 3), 2.8000000000000003},
		{0, list(3, 1, 2), 1}, {minusZero, list(3, 1, 2), 1}, {1, list(3, 1, 2), 3}, {0, list(7), 7}, {0.3, list(7), 7}, {1, list(7), 7},
		// Below 0, above 1, no number.
		{-1, list(1, 2), -inf}, {-5e-324, list(1, 2), -inf}, {-inf, list(1), -inf}, {1.0000000000000002, list(1, 2), inf}, {2, list(1), inf}, {inf, list(1), inf}, {nan, list(1, 2), nan}, {stale, list(1), nan}, {otherNaN, list(inf), nan},
		// These go ahead of what the values are.
		{-1, list(nan), -inf}, {2, list(stale), inf},
		// What is no number stands ahead of all others.
		{0, list(1, otherNaN), nan}, {0.5, list(3, nan, 1), 1}, {1, list(stale, 3, nan), 3}, {0.25, list(1, nan, 2), nan}, {0.75, list(1, nan, 2), 1.5}, {0, list(stale), nan}, {1, list(nan, otherNaN), nan},
		// 0 and -0.
		{0, list(0, minusZero), 0}, {1, list(0, minusZero), 0}, {1, list(minusZero, 0), 0}, {0, list(minusZero), minusZero}, {1, list(minusZero), minusZero}, {0.5, list(minusZero, minusZero), minusZero}, {0.5, list(0, minusZero, 0), 0}, {0, list(0, 1), 0}, {1, list(minusZero, minusZero, -1), minusZero}, {0, list(minusZero, minusZero), minusZero},
		// Infinite ones: 0 times one is no number.
		{0, list(inf), nan}, {0.5, list(inf, inf), inf}, {0.5, list(-inf, inf), nan}, {0, list(1, inf), nan}, {1, list(1, inf), nan}, {0.5, list(1, 2, inf), nan}, {0.5, list(1, 2, 3, 4, inf), 3}, {0.75, list(1, 2, inf), inf}, {0.25, list(-inf, 1, 2), -inf},
		// A product and a sum are two steps.
		{0.3, list(0.1, 0.7), 0.27999999999999997},
	} {
		if v, e := Fold("quantile", x.v, x.q); !same(v, x.want) || e != api.OK {
			t.Errorf("%g of %v: %g (%x), %d, not %g", x.q, x.v, v, math.Float64bits(v), e, x.want)
		}
		checkFold(t, "quantile", x.v, x.q)
	}
}

func TestP16_2_Faults(t *testing.T) {
	for _, word := range append(slices.Clone(noWords), "topk", "bottomk") {
		for _, v := range [][]float64{nil, {}, {1}, {1, nan}} {
			if got, e := Fold(word, v, 0.5); !same(got, 0) || e != api.ErrOp {
				t.Error(word, v, got, e)
			}
		}
	}
	for _, word := range foldWords {
		for _, v := range [][]float64{nil, {}} {
			for _, param := range []float64{0, 0.5, 2, -1, nan} {
				if got, e := Fold(word, v, param); !same(got, 0) || e != api.ErrNone {
					t.Error(word, v, got, e)
				}
			}
		}
	}
}

func TestP16_2_AnyValues(t *testing.T) {
	r := rand.New(rand.NewSource(2))
	for range 4000 {
		v := make([]float64, r.Intn(9))
		for i := range v {
			switch r.Intn(6) {
			case 0:
				v[i] = math.Float64frombits(r.Uint64())
			case 1:
				v[i] = r.NormFloat64()
			case 2:
				v[i] = float64(r.Intn(5))
			default:
				v[i] = someValues[r.Intn(9)]
			}
			if r.Intn(3) == 0 {
				v[i] = someValues[r.Intn(len(someValues))]
			}
		}
		before := slices.Clone(v)
		for _, word := range foldWords {
			checkFold(t, word, v, someParam(r))
		}
		checkFold(t, "quantile", v, r.Float64())
		if !slices.EqualFunc(v, before, same) {
			t.Fatal("the values are changed", before, v)
		}
	}
	// Finite ones alone: sums and products far apart.
	for range 4000 {
		v := make([]float64, 1+r.Intn(6))
		for i := range v {
			v[i] = math.Ldexp(r.Float64()-0.5, r.Intn(120)-60)
		}
		for _, word := range foldWords {
			checkFold(t, word, v, r.Float64())
		}
	}
}

func TestP16_6_Bounds(t *testing.T) {
	r := rand.New(rand.NewSource(6))
	for range 3000 {
		v := make([]float64, 1+r.Intn(9))
		whole := make([]float64, len(v))
		sum := int64(0)
		for i := range v {
			for v[i] = someValues[r.Intn(len(someValues))]; v[i] != v[i]; {
				v[i] = r.NormFloat64()
			}
			n := r.Int63n(1<<49) - 1<<48
			whole[i] = float64(n)
			sum += n
		}
		least, e := Fold("min", v, 0)
		greatest, e2 := Fold("max", v, 0)
		if e != api.OK || e2 != api.OK {
			t.Fatal(e, e2)
		}
		for _, x := range v {
			if !(least <= x) || !(greatest >= x) {
				t.Fatal(v, least, greatest)
			}
		}
		if !slices.Contains(v, least) || !slices.Contains(v, greatest) {
			t.Fatal("none of the values", v, least, greatest)
		}
		r.Shuffle(len(whole), func(i, j int) { whole[i], whole[j] = whole[j], whole[i] })
		if got, _ := Fold("sum", whole, 0); got != float64(sum) {
			t.Fatal(whole, got, sum)
		}
		// n times one number whose multiples are exact.
		one := float64(r.Intn(2001)-1000) / 8
		for i := range v {
			v[i] = one
		}
		if got, _ := Fold("avg", v, 0); got != one {
			t.Fatal(v, got)
		}
	}
}

func FuzzFold(f *testing.F) {
	f.Add("quantile", 1.0, 2.0, 4.0, 0.5)
	f.Add("min", nan, 0.0, minusZero, 0.0)
	f.Add("stddev", 1e200, -1e200, 5e-324, 0.0)
	f.Fuzz(func(t *testing.T, word string, a, b, c, param float64) {
		checkFold(t, word, []float64{a, b, c}, param)
		checkFold(t, word, []float64{c, a}, param)
		checkFold(t, word, []float64{b}, param)
		for _, word := range foldWords {
			checkFold(t, word, []float64{a, b, c, a}, param)
		}
	})
}
