package eval

import (
	"fmt"
	"math"
	"slices"
	"strings"
	"testing"

	"tocsin/api"
	"tocsin/store"
)

func TestP18_2_Range(t *testing.T) {
	series := shop()
	s := stored(t, series)
	show := func(l []api.Series) string {
		text, _ := Show(api.Value{Kind: api.VMatrix, Series: l})
		return text
	}
	for _, x := range []struct {
		text           string
		from, to, step int64
		want           string
	}{
		{"1", 0, 0, 1, "{} 1@0"}, {"1", 5, 9, 2, "{} 1@5 1@7 1@9"}, {"1", 5, 10, 2, "{} 1@5 1@7 1@9"}, {"1", 5, 6, 2, "{} 1@5"}, {"time()", 0, 3000, 1000, "{} 0@0 1@1000 2@2000 3@3000"}, {"1", 0, 1, 1 << 40, "{} 1@0"}, {"1", 1 << 50, 1 << 50, 1, "{} 1@1125899906842624"}, {"1", 1<<50 - 1, 1 << 50, 1, "{} 1@1125899906842623 1@1125899906842624"},
		{"vector(2)", 0, 1, 1, "{} 2@0 2@1"}, {"nope", 0, 5, 1, ""}, {"-1", 0, 0, 5, "{} -1@0"},
		{`m{b="x"}`, 60 * second, 100 * second, 10 * second, `m{a="1",b="x"} 1@70000 2@80000 4@90000 4@100000`},
		// Each has the times at which it is told; label sets rise.
		{"m", 65 * second, 95 * second, 15 * second, "m{a=\"1\",b=\"x\"} 2@80000 4@95000\nm{a=\"1\",b=\"y\"} 7@80000 3@95000\nm{a=\"2\"} 2@80000"},
		{`{a=~"2|3"}`, 80 * second, 95 * second, 15 * second, "m{a=\"2\"} 2@80000\nn{a=\"3\"} 9@80000 -0.5@95000"},
		{"sum(m)", 70 * second, 90 * second, 10 * second, "{} 7@70000 11@80000 7@90000"}, {"m > 3", 70 * second, 90 * second, 10 * second, "m{a=\"1\",b=\"x\"} 4@90000\nm{a=\"1\",b=\"y\"} 5@70000 7@80000"}, {"scalar(n)", 0, 0, 1, "{} 9@0"}, {"absent(m)", 60 * second, 80 * second, 10 * second, "{} 1@60000"},
	} {
		got, e := holdsRange(t, s, series, x.text, x.from, x.to, x.step, lookback)
		if show(got) != x.want || e != api.OK {
			t.Error(x.text, show(got), e)
		}
	}
}

func TestP18_2_Faults(t *testing.T) {
	s := stored(t, shop())
	one, none := tree(t, "1"), api.Tree{Nodes: []api.Node{{Kind: 99}}}
	for _, x := range []struct {
		s                        *store.Store
		t                        api.Tree
		from, to, step, lookback int64
		want                     api.Errno
	}{
		{nil, one, 0, 0, 1, 1, api.ErrNil}, {nil, none, -1, 0, 0, 0, api.ErrNil}, {nil, tree(t, `"a"`), 0, 0, 1, 1, api.ErrNil},
		{s, none, -1, 0, 0, 0, api.ErrForm}, {s, api.Tree{}, 0, 0, 1, 1, api.ErrForm}, {s, tree(t, "1 > 2"), -1, 0, 0, 0, api.ErrType}, {s, tree(t, "foo(1)"), 0, 0, 1, 1, api.ErrOp},
		{s, tree(t, `"a"`), 0, 0, 1, 1, api.ErrType}, {s, tree(t, `("a")`), -1, 0, 0, 0, api.ErrType}, {s, tree(t, "m[1m]"), 0, 0, 1, 1, api.ErrType}, {s, tree(t, "(m[1m])"), 0, -1, 1, 1, api.ErrType},
		{s, one, -1, 0, 1, 1, api.ErrArg}, {s, one, 0, -1, 1, 1, api.ErrArg}, {s, one, 0, 1<<50 + 1, 1 << 40, 1, api.ErrArg}, {s, one, 1<<50 + 1, 1<<50 + 1, 1, 1, api.ErrArg}, {s, one, 1, 0, 1, 1, api.ErrArg}, {s, one, 0, 0, 0, 1, api.ErrArg}, {s, one, 0, 0, -1, 1, api.ErrArg}, {s, one, 0, 0, 1<<40 + 1, 1, api.ErrArg}, {s, one, 0, 0, 1 << 40, 1, api.OK}, {s, one, 0, 0, 1, 0, api.ErrArg}, {s, one, 0, 0, 1, 1<<40 + 1, api.ErrArg}, {s, one, 0, 0, 1, 1 << 40, api.OK}, {s, one, 0, 0, 1, -1, api.ErrArg},
		{s, one, math.MinInt64, math.MaxInt64, 1, 1, api.ErrArg}, {s, one, math.MaxInt64, math.MinInt64, 1, 1, api.ErrArg}, {s, one, 0, math.MaxInt64, math.MaxInt64, 1, api.ErrArg}, {s, one, 0, 0, math.MinInt64, 1, api.ErrArg}, {s, one, 0, 0, 1, math.MinInt64, api.ErrArg}, {s, one, 0, 0, 1, math.MaxInt64, api.ErrArg},
		// 11000 steps, and one more.
		{s, one, 0, 10999, 1, 1, api.OK}, {s, one, 0, 11000, 1, 1, api.ErrArg}, {s, one, 5, 10999*7 + 5, 7, 1, api.OK}, {s, one, 5, 11000*7 + 4, 7, 1, api.OK}, {s, one, 5, 11000*7 + 5, 7, 1, api.ErrArg}, {s, one, 0, 1 << 50, 1 << 40, 1, api.OK}, {s, one, 0, 1 << 50, 1 << 36, 1, api.ErrArg}, {s, one, 0, 1 << 50, 1, 1, api.ErrArg},
		// Instant's first error.
		{s, tree(t, "m + on () m"), 60 * second, 80 * second, 10 * second, second, api.ErrMany}, {s, tree(t, "m + on () m"), 0, 60 * second, 10 * second, second, api.OK},
	} {
		got, e := Range(x.s, x.t, x.from, x.to, x.step, x.lookback)
		if e != x.want || e != api.OK && got != nil {
			t.Error(x.t, x.from, x.to, x.step, x.lookback, e, x.want)
		}
		if x.s == nil || x.want != api.OK {
			continue
		}
		if steps := (x.to-x.from)/x.step + 1; len(got) > 0 && (len(got) != 1 || int64(len(got[0].Samples)) != steps || got[0].Samples[steps-1].T != x.from+(steps-1)*x.step) {
			t.Error("not each step", x.from, x.to, x.step, len(got[0].Samples))
		}
	}
}

func TestP18_2_Limits(t *testing.T) {
	s := empty()
	// A label set for each time: MaxSeries of them, and one more.
	each := tree(t, `count_values("v", vector(time()))`)
	if got, e := Range(s, each, 1, 1000, 1, 1); e != api.OK || len(got) != 1000 || len(got[0].Samples) != 1 || got[0].Labels[0].Value != "0.001" {
		t.Error(len(got), e)
	}
	if got, e := Range(s, each, 1, 1001, 1, 1); e != api.ErrFull || got != nil {
		t.Error(len(got), e)
	}
	// A thousand points at each of a hundred times are MaxSamples; one more at the last one.
	var wide, more []api.Series
	for i := range 1000 {
		wide = append(wide, ser(fmt.Sprintf(`w{i="%d"}`, i), at(0, 1)))
		more = append(more, ser(fmt.Sprintf(`w{i="%d"}`, i), at(0, 1)))
	}
	w := stored(t, wide)
	all := tree(t, "w")
	if got, e := Range(w, all, 0, 99, 1, 1000); e != api.OK || len(got) != 1000 || len(got[999].Samples) != 100 {
		t.Error(len(got), e)
	}
	if got, e := Range(w, all, 0, 100, 1, 1000); e != api.ErrLarge || got != nil {
		t.Error(len(got), e)
	}
	// One more: 999 at each of a hundred times, and then as many as are left, or one too many.
	for more, want := range map[string]api.Errno{"100": api.OK, "101": api.ErrLarge} {
		x := tree(t, "topk("+more+`, w) and on () (vector(time()) == 0.1) or w{i!="0"} and on () (vector(time()) < 0.1)`)
		got, e := Range(w, x, 0, 100, 1, 1000)
		if e != want || e == api.OK && len(got) != 1000 || e != api.OK && got != nil {
			t.Error(more, len(got), e)
		}
	}
	// Too many series go ahead of too many samples, and Instant's error at a later time ahead of both.
	for i := range more {
		more[i].Labels = of("__name__", "x", "i", fmt.Sprint(i))
		more[i].Samples = []api.Sample{at(1000, 1)}
	}
	slices.SortFunc(more, func(a, b api.Series) int { return strings.Compare(a.Labels[1].Value, b.Labels[1].Value) })
	both := stored(t, wide, more) // with a lookback of 1000 w ends where x begins
	all = tree(t, `{i!=""}`)
	if got, e := Range(both, all, 940, 1060, 1, 1000); e != api.ErrFull || got != nil {
		t.Error(len(got), e)
	}
	if got, e := Range(both, all, 895, 1005, 1, 1000); e != api.ErrFull || got != nil { // the samples of w alone are too many
		t.Error(len(got), e)
	}
	if got, e := Range(both, all, 900, 1100, 100, 1000); e != api.ErrFull || got != nil {
		t.Error(len(got), e)
	}
	if got, e := Range(both, all, 900, 1100, 100, 1001); e != api.ErrLarge || got != nil { // at 1000 both are there
		t.Error(len(got), e)
	}
	late := tree(t, `{i!=""} or vector(1) + on () (x and on () (vector(time()) > 1.05))`)
	if got, e := Range(both, late, 900, 1100, 100, 1000); e != api.ErrMany || got != nil {
		t.Error(len(got), e)
	}
	if got, e := Range(both, late, 900, 1000, 100, 1000); e != api.ErrFull || got != nil {
		t.Error(len(got), e)
	}
	if got, e := Range(both, late, 940, 1060, 1, 1000); e != api.ErrMany || got != nil {
		t.Error(len(got), e)
	}
}
