package vec

import (
	"math"
	"math/rand"
	"testing"

	"tocsin/api"
)

// edges are floats at which operators turn.
var edges = []float64{
	0, minusZero, 1, -1, 0.5, -0.5, 2, -2, 3, -3, 7, -7, 0.1, 1e-7, 10, 1023, 1024, 1025, -1023, -1024, -1025, 1024.5, -1024.5, 1023.5, 1e9,
	1<<53 - 1, 1 << 53, 1<<53 + 2, 1 << 62, 1 << 63, -(1 << 63), 1 << 64, 1e300, -1e300, 5e-324, -5e-324, 1e-320, 2.2250738585072014e-308, 2.225073858507201e-308,
	math.MaxFloat64, -math.MaxFloat64, math.Pi, inf, -inf, nan, otherNaN, stale, math.Float64frombits(0x7ff8000000000000), math.Float64frombits(0xffffffffffffffff),
}

func checkNumbers(t testing.TB, op int, a, b float64) {
	t.Helper()
	want, e := modelArith(op, a, b)
	if v, ge := Arith(op, a, b); !same(v, want) || ge != e {
		t.Fatalf("Arith(%d, %g, %g) = %g (%x), %d, not %g (%x), %d", op, a, b, v, math.Float64bits(v), ge, want, math.Float64bits(want), e)
	}
	holds, e := modelHolds(op, a, b)
	if is, ge := Holds(op, a, b); is != holds || ge != e {
		t.Fatalf("Holds(%d, %g, %g) = %t, %d, not %t, %d", op, a, b, is, ge, holds, e)
	}
}

func TestP15_1_Arith(t *testing.T) {
	for _, x := range []struct {
		op         int
		a, b, want float64
	}{
		{api.OAdd, 2, 3, 5}, {api.OSub, 2, 3, -1}, {api.OMul, 2, 3, 6}, {api.ODiv, 3, 2, 1.5}, {api.OMod, 7, 3, 1}, {api.OPow, 2, 3, 8},
		{api.OAdd, 0.1, 0.2, 0.30000000000000004}, {api.OAdd, 1 << 53, 1, 1 << 53}, {api.OAdd, 1e308, 1e308, inf}, {api.OMul, 1e200, -1e200, -inf}, {api.OMul, 1e-200, 1e-200, 0}, {api.OMul, -1e-200, 1e-200, minusZero},
		// 0 and -0.
		{api.OAdd, 0, minusZero, 0}, {api.OAdd, minusZero, 0, 0}, {api.OAdd, minusZero, minusZero, minusZero}, {api.OSub, 0, 0, 0}, {api.OSub, minusZero, 0, minusZero}, {api.OSub, 0, minusZero, 0}, {api.OMul, 0, -1, minusZero}, {api.ODiv, 0, -1, minusZero}, {api.ODiv, 1, 0, inf}, {api.ODiv, 1, minusZero, -inf}, {api.ODiv, 0, 0, nan}, {api.ODiv, minusZero, 0, nan},
		// Infinite ones.
		{api.OAdd, inf, 1, inf}, {api.OAdd, inf, -inf, nan}, {api.OSub, inf, inf, nan}, {api.OSub, inf, -inf, inf}, {api.OMul, inf, 0, nan}, {api.OMul, inf, -1, -inf}, {api.ODiv, inf, inf, nan}, {api.ODiv, 1, -inf, minusZero},
		// What is no number.
		{api.OAdd, stale, 1, nan}, {api.OAdd, 1, stale, nan}, {api.OSub, otherNaN, 1, nan}, {api.OMul, 0, otherNaN, nan}, {api.ODiv, otherNaN, stale, nan}, {api.OMod, stale, 1, nan}, {api.OMod, 1, otherNaN, nan}, {api.OPow, otherNaN, 1, nan}, {api.OPow, 1, otherNaN, nan},
	} {
		if v, e := Arith(x.op, x.a, x.b); !same(v, x.want) || e != api.OK {
			t.Errorf("%v: %g (%x), %d", x, v, math.Float64bits(v), e)
		}
	}
}

func TestP15_1_Mod(t *testing.T) {
	for _, x := range []struct{ a, b, want float64 }{
		{7, 3, 1}, {-7, 3, -1}, {7, -3, 1}, {-7, -3, -1}, {5.5, 2, 1.5}, {-5.5, 2, -1.5}, {6, 3, 0}, {-6, 3, minusZero}, {6, -3, 0}, {-6, -3, minusZero}, {3, 7, 3}, {-3, 7, -3}, {7, 7, 0}, {-7, 7, minusZero},
		{7, 0, nan}, {7, minusZero, nan}, {-7, 0, nan}, {0, 0, nan}, {minusZero, 0, nan}, {inf, 0, nan}, {nan, 0, nan},
		{0, 3, 0}, {minusZero, 3, minusZero}, {0, -3, 0}, {minusZero, -3, minusZero},
		{7, inf, 7}, {7, -inf, 7}, {-7, inf, -7}, {0, inf, 0}, {minusZero, inf, minusZero}, {minusZero, -inf, minusZero}, {inf, inf, nan}, {-inf, inf, nan}, {inf, 3, nan}, {-inf, 3, nan}, {nan, inf, nan}, {3, nan, nan}, {inf, nan, nan},
		// Far apart: exact, nothing is rounded on the way.
		{1e22, 3, 1}, {1e300, 3, 0}, {-1e300, 3, minusZero}, {1e300, 7, 1}, {-1e300, 7, -1}, {math.MaxFloat64, 3, 2}, {math.MaxFloat64, 5e-324, 0}, {-math.MaxFloat64, 5e-324, minusZero}, {5e-324, math.MaxFloat64, 5e-324}, {-5e-324, math.MaxFloat64, -5e-324}, {1e-320, 3e-323, 1e-323}, {0.3, 0.1, 0.09999999999999998}, {1 << 53, 3, 2}, {1 << 62, 1<<53 - 1, 512},
	} {
		v, e := Arith(api.OMod, x.a, x.b)
		if !same(v, x.want) || e != api.OK {
			t.Errorf("%g %% %g = %g, %d, not %g", x.a, x.b, v, e, x.want)
		}
		if w := modelMod(x.a, x.b); !same(w, x.want) {
			t.Errorf("the model: %g %% %g = %g, not %g", x.a, x.b, w, x.want)
		}
	}
}

func TestP15_1_Pow(t *testing.T) {
	for _, x := range []struct{ a, b, want float64 }{
		{2, 3, 8}, {2, -1, 0.5}, {2, -3, 0.125}, {-2, 3, -8}, {-2, 2, 4}, {-2, -3, -0.125}, {3, 1, 3}, {3, -1, 1 / 3.0}, {0.5, 2, 0.25},
		// By 0 it is 1, whatever it is of.
		{2, 0, 1}, {0, 0, 1}, {minusZero, 0, 1}, {inf, 0, 1}, {nan, 0, 1}, {stale, 0, 1}, {2, minusZero, 1}, {nan, minusZero, 1}, {-5, 0, 1},
		{0, 1, 0}, {minusZero, 1, minusZero}, {minusZero, 2, 0}, {minusZero, 3, minusZero}, {0, -1, inf}, {minusZero, -1, -inf}, {minusZero, -2, inf}, {inf, 2, inf}, {-inf, 3, -inf}, {inf, -1, 0}, {-inf, -1, minusZero}, {otherNaN, 2, nan}, {otherNaN, -2, nan},
		// Whole numbers up to 1024, and one beyond.
		{2, 1023, 0x1p1023}, {2, 1024, inf}, {2, -1023, 0x1p-1023}, {2, -1024, 0}, {1, 1024, 1}, {1, -1024, 1}, {-1, 1023, -1}, {-1, 1024, 1}, {0, 1024, 0}, {1, 1025, nan}, {1, -1025, nan}, {0, 1025, nan}, {2, 1025, nan}, {1, 1e300, nan}, {1, -1e300, nan}, {1, 1 << 63, nan}, {1, inf, nan}, {1, -inf, nan}, {2, -inf, nan}, {1, nan, nan},
		// No whole numbers.
		{2, 0.5, nan}, {4, 0.5, nan}, {1, 0.5, nan}, {2, -0.5, nan}, {1, 1023.5, nan}, {1, 1024.5, nan}, {1, 5e-324, nan}, {1, -5e-324, nan}, {2, 1.0000000000000002, nan},
		// One product after another, each rounded.
		{1.3, 3, 2.1970000000000005}, {1.1, 4, 1.4641000000000006}, {0.7, 4, 0.24009999999999992}, {1e-200, -2, inf}, {1e200, -2, 0},
	} {
		v, e := Arith(api.OPow, x.a, x.b)
		if !same(v, x.want) || e != api.OK {
			t.Errorf("%g ^ %g = %g, %d, not %g", x.a, x.b, v, e, x.want)
		}
	}
	for n := -1030; n <= 1030; n++ {
		for _, a := range []float64{1.001, -0.999, 1.5, 3} {
			checkNumbers(t, api.OPow, a, float64(n))
		}
	}
}

func TestP15_1_Holds(t *testing.T) {
	comparisons := ops[6:12]
	for _, x := range []struct {
		a, b float64
		want string // of == != > < >= <=
	}{
		{1, 2, "0101 01"}, {2, 1, "0110 10"}, {2, 2, "1000 11"}, {0, minusZero, "1000 11"}, {minusZero, 0, "1000 11"},
		{nan, 1, "0100 00"}, {1, nan, "0100 00"}, {nan, nan, "0100 00"}, {stale, stale, "0100 00"}, {inf, nan, "0100 00"}, {otherNaN, -inf, "0100 00"},
		{inf, inf, "1000 11"}, {-inf, inf, "0101 01"}, {inf, 1e300, "0110 10"}, {5e-324, 0, "0110 10"}, {1 << 53, 1<<53 + 2, "0101 01"},
	} {
		got := ""
		for i, op := range comparisons {
			if i == 4 {
				got += " "
			}
			is, e := Holds(op, x.a, x.b)
			if e != api.OK {
				t.Error(op, e)
			}
			got += map[bool]string{true: "1", false: "0"}[is]
		}
		if got != x.want {
			t.Errorf("%g, %g: %s, not %s", x.a, x.b, got, x.want)
		}
	}
}

func TestP15_1_NoOperators(t *testing.T) {
	for _, op := range append(wrongOps, ops...) {
		for _, a := range []float64{2, nan, stale} {
			if v, e := Arith(op, a, 3); (e == api.OK) != (op >= api.OAdd && op <= api.OPow) || e != api.OK && (e != api.ErrOp || !same(v, 0)) {
				t.Error("Arith", op, v, e)
			}
			if is, e := Holds(op, a, 3); (e == api.OK) != (op >= api.OEq && op <= api.OLe) || e != api.OK && (e != api.ErrOp || is) {
				t.Error("Holds", op, is, e)
			}
		}
	}
}

func TestP15_1_Numbers(t *testing.T) {
	for _, op := range append(wrongOps, ops...) {
		for _, a := range edges {
			for _, b := range edges {
				checkNumbers(t, op, a, b)
			}
		}
	}
	r := rand.New(rand.NewSource(15))
	for range 20000 {
		a, b := math.Float64frombits(r.Uint64()), math.Float64frombits(r.Uint64())
		for _, op := range ops {
			checkNumbers(t, op, a, b)
			checkNumbers(t, op, a, float64(r.Intn(2100)-1050))
			checkNumbers(t, op, float64(r.Intn(200)-100), float64(r.Intn(40)-20))
		}
	}
}

func FuzzNumbers(f *testing.F) {
	f.Add(api.OMod, -7.0, 3.0)
	f.Add(api.OPow, 2.0, -1024.0)
	f.Add(api.OLe, stale, minusZero)
	f.Fuzz(func(t *testing.T, op int, a, b float64) {
		checkNumbers(t, op, a, b)
	})
}
