package over

import (
	"math"
	"math/rand"
	"slices"
	"testing"

	"tocsin/api"
	"tocsin/parse"
)

func list(v ...float64) []float64 { return v }

// ask holds what Call answers of values ten seconds apart, in the window from 0 to 10 s behind the last one, against a value.
func ask(t *testing.T, name string, v []float64, want float64) {
	t.Helper()
	l := every(v...)
	to := int64(len(v)+1) * 10 * second
	for _, q := range []float64{0, 0.5, -1, nan, inf} {
		if got, is, e := Call(name, l, 0, to, q); !same(got, want) || !is || e != api.OK {
			t.Errorf("%s of %v: %s, not %g", name, v, told3(got, is, e), want)
		}
	}
	check(t, name, l, 0, to, 0.5)
}

func none(t *testing.T, name string, l []api.Sample, from, to int64) {
	t.Helper()
	if v, is, e := Call(name, l, from, to, 0.5); !same(v, 0) || is || e != api.OK {
		t.Errorf("%s of %v: %s, not none", name, l, told3(v, is, e))
	}
}

func refused(t *testing.T, name string, l []api.Sample, from, to int64, want api.Errno) {
	t.Helper()
	if v, is, e := Call(name, l, from, to, 0.5); !same(v, 0) || is || e != want {
		t.Errorf("%s of %v, %d to %d: %s, not %d", name, l, from, to, told3(v, is, e), want)
	}
	check(t, name, l, from, to, 0.5)
}

func TestExamples(t *testing.T) {
	l := every(1, 3, 2)
	for name, want := range map[string]float64{"delta": 2, "increase": 7, "resets": 1, "changes": 2} {
		if v, is, e := Call(name, l, 0, 40*second, 0); v != want || !is || e != api.OK {
			t.Error(name, v, is, e)
		}
	}
	if v := Quantile(0.5, list(1, 2, 4)); v != 2 {
		t.Error(v)
	}
	if v := Quantile(0.5, list(1, 2)); v != 1.5 {
		t.Error(v)
	}
}

func TestP17_1_Names(t *testing.T) {
	got := Names()
	if !slices.Equal(got, names) {
		t.Error(got)
	}
	_ = append(got, "x")
	for i := range got {
		got[i] = "!"
	}
	if again := Names(); !slices.Equal(again, names) {
		t.Error("not new memory", again)
	}
	for _, name := range names {
		if is, parameter := Has(name); !is || parameter != (name == "quantile_over_time") {
			t.Error(name, is, parameter)
		}
		// What an expression may call is what is here.
		kinds, _, is := parse.Kinds(name)
		if _, parameter := Has(name); !is || (len(kinds) == 2) != parameter || kinds[len(kinds)-1] != api.VMatrix {
			t.Error(name, kinds, is)
		}
	}
	for _, name := range noNames {
		if is, parameter := Has(name); is || parameter {
			t.Error(name, is, parameter)
		}
	}
}

func TestP17_1_Quantile(t *testing.T) {
	for _, x := range []struct {
		q    float64
		v    []float64
		want float64
	}{
		{0.5, list(2, 4, 5), 4}, {0.5, list(5, 2, 4), 4}, {0.5, list(1, 2), 1.5}, {0.5, list(2, 1), 1.5}, {0.25, list(1, 2), 1.25}, {0.75, list(4, 3, 2, 1, 0), 3}, {0.1, list(0, 10), 1}, {0.9, list(1, 2, 3), 2.8000000000000003},
		{0, list(3, 1, 2), 1}, {minusZero, list(3, 1, 2), 1}, {1, list(3, 1, 2), 3}, {0, list(7), 7}, {0.3, list(7), 7}, {1, list(7), 7},
		// Of none, and of a q that is no number: ahead of all else.
		{0.5, nil, nan}, {0.5, list(), nan}, {-1, nil, nan}, {2, nil, nan}, {nan, nil, nan}, {nan, list(1, 2), nan}, {staleV, list(1), nan}, {otherNaN, list(inf), nan},
		// Below 0, above 1.
		{-1, list(1, 2), -inf}, {-5e-324, list(1, 2), -inf}, {-inf, list(1), -inf}, {1.0000000000000002, list(1, 2), inf}, {2, list(1), inf}, {inf, list(1), inf}, {-1, list(nan), -inf}, {2, list(staleV), inf},
		// What is no number stands ahead of all others; a stale marker is no other.
		{0, list(1, otherNaN), nan}, {0.5, list(3, nan, 1), 1}, {1, list(staleV, 3, nan), 3}, {0.25, list(1, nan, 2), nan}, {0.75, list(1, nan, 2), 1.5}, {0, list(staleV), nan}, {1, list(nan, otherNaN), nan}, {0.5, list(1, staleV), nan},
		// 0 and -0.
		{0, list(0, minusZero), 0}, {1, list(0, minusZero), 0}, {1, list(minusZero, 0), 0}, {0, list(minusZero), minusZero}, {1, list(minusZero), minusZero}, {0.5, list(minusZero, minusZero), minusZero}, {0.5, list(0, minusZero, 0), 0}, {0, list(0, 1), 0}, {1, list(minusZero, minusZero, -1), minusZero}, {0, list(minusZero, minusZero), minusZero}, {0.25, list(minusZero, 0, minusZero, 1, minusZero), minusZero},
		// Infinite ones: 0 times one is no number.
		{0, list(inf), nan}, {0.5, list(inf, inf), inf}, {0.5, list(-inf, inf), nan}, {0, list(1, inf), nan}, {1, list(1, inf), nan}, {0.5, list(1, 2, inf), nan}, {0.5, list(1, 2, 3, 4, inf), 3}, {0.75, list(1, 2, inf), inf}, {0.25, list(-inf, 1, 2), -inf},
		// A product and a sum are two steps.
		{0.3, list(0.1, 0.7), 0.27999999999999997},
	} {
		before := slices.Clone(x.v)
		if v := Quantile(x.q, x.v); !same(v, x.want) || !same(v, modelQuantile(x.q, x.v)) {
			t.Errorf("%g of %v: %g (%x), not %g", x.q, x.v, v, math.Float64bits(v), x.want)
		}
		if !slices.EqualFunc(x.v, before, same) {
			t.Error("the values are changed", before, x.v)
		}
	}
}

func TestP17_2_NoSuchFunction(t *testing.T) {
	for _, name := range noNames {
		refused(t, name, every(1, 2), 0, 40*second, api.ErrOp)
		refused(t, name, nil, 0, 40*second, api.ErrOp)
		// ErrOp goes ahead of a wrong window and of wrong samples.
		refused(t, name, every(1, 2), 5, 5, api.ErrOp)
		refused(t, name, every(1, 2), -1<<63, 1<<63-1, api.ErrOp)
		refused(t, name, []api.Sample{at(5, 1), at(4, 1)}, 0, 10, api.ErrOp)
	}
}

func TestP17_2_Windows(t *testing.T) {
	const low, high = -1 << 40, 1 << 50
	one := func(ts int64) []api.Sample { return []api.Sample{at(ts, 1)} }
	for _, name := range names {
		for _, x := range []struct {
			from, to int64
			want     api.Errno
		}{
			{0, 1, api.OK}, {-1, 0, api.OK}, {low, 0, api.OK}, {low, high, api.OK}, {high - 1, high, api.OK}, {0, high, api.OK},
			{low - 1, 0, api.ErrArg}, {low - 1, high, api.ErrArg}, {low, high + 1, api.ErrArg}, {0, high + 1, api.ErrArg}, {high, high + 1, api.ErrArg}, {high + 1, high + 2, api.ErrArg}, {-1 << 63, 0, api.ErrArg}, {0, 1<<63 - 1, api.ErrArg}, {-1 << 63, 1<<63 - 1, api.ErrArg}, {1<<63 - 1, -1 << 63, api.ErrArg},
			{0, 0, api.ErrArg}, {5, 5, api.ErrArg}, {5, 4, api.ErrArg}, {high, high, api.ErrArg}, {high, 0, api.ErrArg}, {-5, -5, api.ErrArg},
			{-2, -1, api.ErrArg}, {low, -1, api.ErrArg}, {low, low + 1, api.ErrArg}, {low - 2, low - 1, api.ErrArg},
		} {
			for _, l := range [][]api.Sample{nil, {}, {at(x.from, staleV)}} {
				if x.want == api.OK {
					none(t, name, l, x.from, x.to)
				} else {
					refused(t, name, l, x.from, x.to, x.want)
				}
			}
		}
		// Samples lie above from, and not above to.
		for _, x := range []struct {
			l    []api.Sample
			want api.Errno
		}{
			{one(10), api.ErrArg}, {one(11), api.OK}, {one(15), api.OK}, {one(20), api.OK}, {one(21), api.ErrArg}, {one(9), api.ErrArg}, {one(-1 << 63), api.ErrArg}, {one(1<<63 - 1), api.ErrArg},
			{[]api.Sample{at(11, 1), at(20, 2)}, api.OK}, {[]api.Sample{at(10, 1), at(20, 2)}, api.ErrArg}, {[]api.Sample{at(11, 1), at(21, 2)}, api.ErrArg},
			{[]api.Sample{at(12, 1), at(12, 1)}, api.ErrArg}, {[]api.Sample{at(12, 1), at(13, 1), at(13, 2), at(14, 1)}, api.ErrArg}, {[]api.Sample{at(12, 1), at(11, 1)}, api.ErrArg}, {[]api.Sample{at(11, 1), at(13, 1), at(12, 1), at(14, 1)}, api.ErrArg},
			{[]api.Sample{at(12, nan), at(11, nan)}, api.ErrArg}, {[]api.Sample{at(10, nan)}, api.ErrArg},
		} {
			if x.want == api.OK {
				check(t, name, x.l, 10, 20, 0.5)
			} else {
				refused(t, name, x.l, 10, 20, x.want)
			}
			if _, _, e := Call(name, x.l, 10, 20, 0.5); e != x.want {
				t.Error(name, x.l, e)
			}
		}
	}
}

func TestP17_2_Few(t *testing.T) {
	for _, name := range names {
		two := slices.Contains([]string{"delta", "increase", "rate", "irate", "idelta"}, name)
		for _, l := range [][]api.Sample{nil, {}, every(staleV), every(staleV, staleV, staleV)} {
			none(t, name, l, 0, 100*second)
		}
		for _, v := range []float64{0, 1, -1, nan, otherNaN, inf, minusZero} {
			if two {
				none(t, name, every(v), 0, 100*second)
				none(t, name, every(staleV, v, staleV), 0, 100*second)
			} else if _, is, e := Call(name, every(v), 0, 100*second, 0.5); !is || e != api.OK {
				t.Error(name, v, is, e)
			}
			check(t, name, every(v), 0, 100*second, 0.5)
		}
		if _, is, e := Call(name, every(1, 2), 0, 100*second, 0.5); !is || e != api.OK {
			t.Error(name, is, e)
		}
	}
}

func TestP17_2_Values(t *testing.T) {
	for _, x := range []struct {
		name string
		v    []float64
		want float64
	}{
		{"sum_over_time", list(1, 3, 2), 6}, {"avg_over_time", list(1, 3, 2), 2}, {"min_over_time", list(2, 1, 3), 1}, {"max_over_time", list(2, 3, 1), 3}, {"count_over_time", list(2, 3, 1), 3}, {"last_over_time", list(2, 3, 1), 1}, {"present_over_time", list(2, 3, 1), 1}, {"changes", list(2, 3, 3, 1), 2}, {"resets", list(2, 3, 3, 1), 1},
		{"sum_over_time", list(5), 5}, {"avg_over_time", list(5), 5}, {"min_over_time", list(5), 5}, {"max_over_time", list(5), 5}, {"count_over_time", list(5), 1}, {"last_over_time", list(5), 5}, {"present_over_time", list(5), 1}, {"changes", list(5), 0}, {"resets", list(5), 0},
		// One after the other, from the first on, each step rounded.
		{"sum_over_time", list(1e16, 1, 1), 1e16}, {"sum_over_time", list(1, 1, 1e16), 1e16 + 2}, {"sum_over_time", list(0.1, 0.2, 0.3), 0.6000000000000001}, {"sum_over_time", list(0.3, 0.2, 0.1), 0.6}, {"avg_over_time", list(1e308, 1e308), inf}, {"avg_over_time", list(1, 1, 2), 4 / 3.0}, {"sum_over_time", list(minusZero), minusZero}, {"sum_over_time", list(minusZero, minusZero), minusZero}, {"sum_over_time", list(minusZero, 0), 0}, {"avg_over_time", list(minusZero), minusZero},
		// What is no number, ahead, between and behind.
		{"sum_over_time", list(nan, 1), nan}, {"sum_over_time", list(1, otherNaN, 2), nan}, {"avg_over_time", list(1, nearNaN), nan}, {"count_over_time", list(nan, 1, nearNaN), 3}, {"last_over_time", list(1, otherNaN), nan}, {"last_over_time", list(otherNaN, 1), 1}, {"present_over_time", list(nan), 1},
		{"min_over_time", list(otherNaN, 2, 1), 1}, {"min_over_time", list(2, nan, 1), 1}, {"min_over_time", list(2, 1, nan), 1}, {"min_over_time", list(nan, otherNaN, 3, nan), 3}, {"min_over_time", list(otherNaN), nan}, {"min_over_time", list(nearNaN, otherNaN), nan}, {"max_over_time", list(otherNaN, 2, 1), 2}, {"max_over_time", list(1, nan, 2), 2}, {"max_over_time", list(1, 2, nan), 2}, {"max_over_time", list(otherNaN, nearNaN), nan}, {"max_over_time", list(nan, -inf), -inf}, {"min_over_time", list(nan, inf), inf},
		{"changes", list(nan, otherNaN, nearNaN), 0}, {"changes", list(1, nan, 1), 2}, {"changes", list(nan, 1, 1, nan), 2}, {"resets", list(nan, 1, nan, 0), 0}, {"resets", list(2, nan, 1), 0}, {"changes", list(nan), 0}, {"delta", list(nan, 1), nan}, {"increase", list(1, otherNaN), nan}, {"rate", list(otherNaN, 1, 2), nan}, {"irate", list(1, otherNaN), nan}, {"irate", list(nearNaN, 1), nan}, {"idelta", list(nearNaN, 1), nan}, {"idelta", list(1, otherNaN), nan}, {"idelta", list(nan, 1, 2), 1},
		// Infinite ones.
		{"sum_over_time", list(inf, 1), inf}, {"sum_over_time", list(inf, -inf), nan}, {"min_over_time", list(inf, -inf, 0), -inf}, {"max_over_time", list(-inf, inf, 0), inf}, {"changes", list(inf, inf, -inf), 1}, {"resets", list(inf, inf, -inf), 1}, {"delta", list(1, inf), inf}, {"delta", list(inf, inf), nan}, {"increase", list(1, inf), inf}, {"increase", list(inf, 1), nan}, {"rate", list(-inf, 1), inf}, {"idelta", list(inf, 1), -inf}, {"irate", list(inf, 1), 0.1}, {"irate", list(1, inf), inf}, {"irate", list(1, -inf), -inf}, {"idelta", list(inf, inf), nan}, {"last_over_time", list(1, -inf), -inf},
		// 0 and -0 are one.
		{"changes", list(0, minusZero, 0), 0}, {"resets", list(0, minusZero), 0}, {"min_over_time", list(0, minusZero), 0}, {"min_over_time", list(minusZero, 0), minusZero}, {"max_over_time", list(minusZero, 0), minusZero}, {"max_over_time", list(0, minusZero), 0}, {"last_over_time", list(0, minusZero), minusZero}, {"irate", list(0, minusZero), minusZero}, {"idelta", list(0, minusZero), minusZero}, {"idelta", list(minusZero, minusZero), 0},
		// The last two.
		{"irate", list(9, 1, 3), 0.2}, {"irate", list(9, 3, 1), 0.1}, {"irate", list(3, 0), 0}, {"irate", list(1, -2), -0.2}, {"idelta", list(9, 1, 3), 2}, {"idelta", list(9, 3, 1), -2}, {"irate", list(1, 1), 0},
		// Resets, one and many.
		{"resets", list(3, 2, 1, 5, 0), 3}, {"changes", list(3, 2, 1, 5, 0), 4}, {"resets", list(1, 2, 3), 0}, {"changes", list(1, 1, 1), 0},
	} {
		ask(t, x.name, x.v, x.want)
	}
}

func TestP17_2_Parameter(t *testing.T) {
	for _, x := range []struct {
		q    float64
		want float64
	}{{0, 1}, {0.5, 2}, {1, 4}, {0.25, 1.5}, {-0.1, -inf}, {1.1, inf}, {nan, nan}, {otherNaN, nan}, {inf, inf}, {-inf, -inf}} {
		for _, l := range [][]api.Sample{every(1, 2, 4), every(4, 1, 2), every(2, staleV, 1, 4), every(staleV, 4, 2, 1, staleV)} {
			if v, is, e := Call("quantile_over_time", l, 0, 100*second, x.q); !same(v, x.want) || !is || e != api.OK {
				t.Error(x, told3(v, is, e))
			}
		}
	}
	if v, is, e := Call("quantile_over_time", nil, 0, 100*second, -1); !same(v, 0) || is || e != api.OK {
		t.Error(told3(v, is, e))
	}
}

func TestP17_2_Slopes(t *testing.T) {
	for _, x := range []struct {
		what                  string
		l                     []api.Sample
		from, to              int64 // seconds
		delta, increase, rate float64
	}{
		{"near either end", every(1, 2, 3), 0, 40, 4, 4, 0.1},
		{"at either end", []api.Sample{at(1, 5), at(20*second, 7), at(40*second, 9)}, 0, 40, 4.0001000025000626, 4.0001000025000626, 0.10000250006250157},
		{"far from both ends", []api.Sample{at(100*second, 5), at(110*second, 7)}, 0, 400, 4, 4, 0.01},
		{"far from the beginning", []api.Sample{at(100*second, 5), at(110*second, 7)}, 0, 115, 4, 4, 0.034782608695652174},
		{"far from the end", []api.Sample{at(105*second, 5), at(110*second, 7)}, 100, 400, 5, 5, 0.016666666666666666},
		{"a first value of 0", every(0, 2), 0, 30, 6, 4, 0.13333333333333333},
		{"a first value of -0", every(minusZero, 2), 0, 30, 6, 4, 0.13333333333333333},
		{"a first value below 0", every(-1, 1), 0, 30, 6, 6, 0.2},
		{"a first value that is small", every(1, 5), 0, 30, 12, 9, 0.3},
		{"a first value that is large", every(10, 12), 0, 30, 6, 6, 0.2},
		{"it falls once", every(5, 7, 3), 0, 40, -4, 10, 0.25},
		{"it falls often", every(5, 3, 2, 1), 0, 50, -4 * 5 / 3.0, 10, 0.2},
		{"it falls to below 0", every(5, -3), 0, 30, -24, -9, -0.3},
		{"it stays", every(5, 5, 5), 0, 40, 0, 0, 0},
		{"it stays 0", every(0, 0), 0, 30, 0, 0, 0},
		{"a window that begins below 0", every(1, 2), -10, 20, 1.5, 2, 2 / 30.0},
	} {
		for name, want := range map[string]float64{"delta": x.delta, "increase": x.increase, "rate": x.rate} {
			if v, is, e := Call(name, x.l, x.from*second, x.to*second, 0); math.Abs(v-want) > 1e-12 || !is || e != api.OK {
				t.Error(x.what, name, told3(v, is, e), want)
			}
			check(t, name, x.l, x.from*second, x.to*second, 0)
		}
	}
	// An end is near, if it is less than 1.1 times as far off as two samples are from one another: 10.999 s is, 11 s is not (10 * 1.1 is 11).
	for _, x := range []struct {
		gap  int64
		want float64 // of delta, either gap being that wide; the values 0 and 10, ten seconds apart
	}{{10999, 10 * (10 + 10.999*2) / 10}, {11000, 20}, {11001, 20}, {10000, 30}, {1, 10.002}} {
		l := []api.Sample{at(x.gap, 0), at(x.gap+10*second, 10)}
		if v, _, e := Call("delta", l, 0, x.gap*2+10*second, 0); math.Abs(v-x.want) > 1e-9 || e != api.OK {
			t.Error(x.gap, v, e, x.want)
		}
		check(t, "delta", l, 0, x.gap*2+10*second, 0)
		// One end alone.
		if v, _, e := Call("delta", l, 0, x.gap+10*second, 0); math.Abs(v-(10+(x.want-10)/2)) > 1e-9 || e != api.OK {
			t.Error(x.gap, v, e)
		}
	}
	// Bounds of windows and times.
	const low, high = -1 << 40, 1 << 50
	far := []api.Sample{at(low+1, 1), at(high, 2)}
	for _, name := range []string{"delta", "increase", "rate", "irate", "idelta"} {
		check(t, name, far, low, high, 0)
		check(t, name, []api.Sample{at(high-1, 1), at(high, 3)}, high-2, high, 0)
		check(t, name, []api.Sample{at(0, 1), at(1, 3)}, -1, 1, 0)
	}
	if v, is, e := Call("delta", far, low, high, 0); math.Abs(v-1) > 1e-12 || !is || e != api.OK {
		t.Error(told3(v, is, e))
	}
}

func TestP17_2_AnyWindows(t *testing.T) {
	r := rand.New(rand.NewSource(17))
	counts := map[api.Errno]int{}
	for range 15000 {
		l, from, to := someWindow(r)
		before := slices.Clone(l)
		q := someParam(r)
		for _, name := range names {
			check(t, name, l, from, to, q)
		}
		_, _, e := Call("rate", l, from, to, q)
		counts[e]++
		if !slices.EqualFunc(l, before, func(a, b api.Sample) bool { return a.T == b.T && same(a.V, b.V) }) {
			t.Fatal("the samples are changed")
		}
	}
	if counts[api.OK] < 10000 || counts[api.ErrArg] < 200 {
		t.Error("few of some", counts)
	}
}

func TestP17_3_Last(t *testing.T) {
	r := rand.New(rand.NewSource(3))
	for range 3000 {
		l, from, to := someWindow(r)
		l = slices.DeleteFunc(l, func(x api.Sample) bool { return x.V != x.V })
		last, is, e := Call("last_over_time", l, from, to, 0)
		least, _, _ := Call("min_over_time", l, from, to, 0)
		greatest, _, _ := Call("max_over_time", l, from, to, 0)
		count, _, _ := Call("count_over_time", l, from, to, 0)
		if e == api.OK && (is != (len(l) > 0) || is && !(least <= last && last <= greatest) || count != float64(len(l))) {
			t.Fatal(l, least, last, greatest, count)
		}
	}
}

func TestP17_4_Increase(t *testing.T) {
	r := rand.New(rand.NewSource(4))
	for range 4000 {
		l, from, to := someWindow(r)
		increase, is, e := Call("increase", l, from, to, 0)
		_, is2, e2 := Call("rate", l, from, to, 0)
		if is != is2 || e != e2 {
			t.Fatal("rate where increase is none", l)
		}
		if e != api.OK {
			continue
		}
		v := -float64(1 + r.Intn(9))
		grows := r.Intn(2) == 0
		for i := range l {
			l[i].V = v
			if grows {
				v += float64(r.Intn(5))
			}
		}
		if !grows {
			for i := range l {
				l[i].V += float64(10 * r.Intn(2)) // all the same, perhaps below 0
				l[i].V = l[0].V
			}
		}
		increase, is, _ = Call("increase", l, from, to, 0)
		delta, is2, _ := Call("delta", l, from, to, 0)
		if is != is2 || !same(increase, delta) {
			t.Fatal(l, increase, delta)
		}
	}
}

func TestP17_5_Ends(t *testing.T) {
	r := rand.New(rand.NewSource(5))
	for range 3000 {
		v := make([]float64, 1+r.Intn(9))
		for i := range v {
			for v[i] = someValue(r); !finite(v[i]); {
				v[i] = r.NormFloat64()
			}
		}
		if got := Quantile(0, v); got != slices.Min(v) {
			t.Fatal(v, got)
		}
		if got := Quantile(1, v); got != slices.Max(v) {
			t.Fatal(v, got)
		}
		if r.Intn(3) == 0 {
			v[r.Intn(len(v))] = someValue(r)
		}
		q := someParam(r)
		want := Quantile(q, v)
		for range 3 {
			r.Shuffle(len(v), func(i, j int) { v[i], v[j] = v[j], v[i] })
			if got := Quantile(q, v); !same(got, want) || !same(got, modelQuantile(q, v)) {
				t.Fatal("the order is of matter", q, v, got, want)
			}
		}
	}
}

func TestP17_6_ChangesAndResets(t *testing.T) {
	r := rand.New(rand.NewSource(6))
	for range 3000 {
		l, from, to := someWindow(r)
		changes, is, e := Call("changes", l, from, to, 0)
		resets, is2, _ := Call("resets", l, from, to, 0)
		if e != api.OK {
			continue
		}
		n := 0
		for _, x := range l {
			if math.Float64bits(x.V) != 0x7ff0000000000002 {
				n++
			}
		}
		if is != (n > 0) || is2 != is || is && (changes >= float64(n) || resets > changes || resets < 0) {
			t.Fatal(l, changes, resets)
		}
	}
}

func TestP17_7_StaleMarkers(t *testing.T) {
	r := rand.New(rand.NewSource(7))
	for range 3000 {
		l, from, to := someWindow(r)
		q := someParam(r)
		with := slices.Clone(l)
		for range 1 + r.Intn(4) {
			// A marker is left out ahead of all else: its time is of no matter either.
			i := r.Intn(len(with) + 1)
			with = slices.Insert(with, i, at(r.Int63n(1<<uint(1+r.Intn(40)))-20, staleV))
		}
		for _, name := range names {
			v, is, e := Call(name, l, from, to, q)
			w, is2, e2 := Call(name, with, from, to, q)
			if !same(v, w) || is != is2 || e != e2 {
				t.Fatal(name, l, with, told3(v, is, e), told3(w, is2, e2))
			}
		}
	}
	// Other floats that are no numbers are none.
	for _, v := range []float64{nan, otherNaN, nearNaN} {
		if n, _, _ := Call("count_over_time", every(1, v, staleV), 0, 100*second, 0); n != 2 {
			t.Error(n)
		}
	}
}

// No list that is handed in is changed or kept.
func TestRules_Memory(t *testing.T) {
	l := append(make([]api.Sample, 0, 9), every(5, staleV, 1, staleV, 3)...)
	before := slices.Clone(l)
	for _, name := range names {
		want, _, _ := Call(name, l, 0, 100*second, 0.5)
		if !slices.EqualFunc(l, before, func(a, b api.Sample) bool { return a.T == b.T && same(a.V, b.V) }) || l[:9][5] != (api.Sample{}) {
			t.Error(name, "changes the samples")
		}
		clear(l)
		if got, _, _ := Call(name, before, 0, 100*second, 0.5); !same(got, want) {
			t.Error(name, "hangs on an earlier call")
		}
		copy(l, before)
		// A refused call, too.
		Call(name, l, 100*second, 0, 0.5)
		Call(name, l, 0, 20*second, 0.5)
		Call(name+"!", l, 0, 100*second, 0.5)
		if !slices.EqualFunc(l, before, func(a, b api.Sample) bool { return a.T == b.T && same(a.V, b.V) }) {
			t.Error(name, "changes the samples")
		}
	}
}

func FuzzOver(f *testing.F) {
	f.Add(int64(0), int64(40000), int64(10000), int64(10000), 1.0, 3.0, 2.0, 0.5)
	f.Add(int64(-1)<<40, int64(1)<<50, int64(1), int64(7), nan, staleV, minusZero, -1.0)
	f.Add(int64(5), int64(5), int64(0), int64(-1), inf, -inf, 1e300, nan)
	f.Fuzz(func(t *testing.T, from, to, first, apart int64, a, b, c, q float64) {
		l := []api.Sample{at(first, a), at(first+apart, b), at(first+2*apart, c)}
		for n := range 4 {
			for _, name := range names {
				check(t, name, l[:n], from, to, q)
			}
		}
		v := list(a, b, c, a)
		if got, want := Quantile(q, v), modelQuantile(q, v); !same(got, want) {
			t.Fatal(q, v, got, want)
		}
	})
}
