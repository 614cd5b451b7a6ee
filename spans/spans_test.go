package spans

import (
	"math"
	"testing"
)

func TestBounds(t *testing.T) {
	const span, last = int64(1) << 40, int64(1) << 50
	for _, x := range []struct {
		n                        int64
		right, some, time, bound bool
	}{
		{math.MinInt64, false, false, false, false},
		{-1, false, false, false, false},
		{0, true, false, true, true},
		{1, true, true, true, true},
		{span, true, true, true, true},
		{span + 1, false, false, true, true},
		{last, false, false, true, true},
		{last + 1, false, false, false, true},
		{last + span, false, false, false, true},
		{last + span + 1, false, false, false, false},
		{math.MaxInt64, false, false, false, false},
	} {
		if Right(x.n) != x.right || Some(x.n) != x.some || Time(x.n) != x.time || Bound(x.n) != x.bound {
			t.Error(x, Right(x.n), Some(x.n), Time(x.n), Bound(x.n))
		}
	}
}

func TestWithin(t *testing.T) {
	for _, x := range []struct {
		n, from, to int64
		want        bool
	}{
		{5, 5, 5, true}, {4, 5, 6, false}, {7, 5, 6, false}, {5, 5, 6, true}, {6, 5, 6, true}, {5, 6, 4, false},
		{math.MinInt64, math.MinInt64, math.MaxInt64, true}, {math.MaxInt64, math.MinInt64, math.MaxInt64, true}, {0, math.MaxInt64, math.MinInt64, false},
	} {
		if got := Within(x.n, x.from, x.to); got != x.want {
			t.Error(x, got)
		}
	}
}
