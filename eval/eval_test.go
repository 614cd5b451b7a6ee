package eval

import (
	"fmt"
	"math"
	"slices"
	"strings"
	"testing"

	"tocsin/api"
	"tocsin/head"
	"tocsin/labels"
	"tocsin/over"
	"tocsin/parse"
	"tocsin/store"
)

const lookback = 300 * second

// empty answers a store without samples.
func empty() *store.Store { return store.New(head.New(1, 1)) }

// says holds the text of what an expression comes to against one.
func says(t *testing.T, s *store.Store, text string, now int64, want string) {
	t.Helper()
	v, e, place := Query(s, text, now, lookback)
	if got, f := Show(v); got != want || e != api.OK || f != api.OK || place != 0 {
		t.Errorf("%s at %d: %s, %d, %d, not %s", text, now, got, e, f, want)
	}
}

// faults holds the error of an expression against one.
func faults(t *testing.T, s *store.Store, text string, now int64, want api.Errno) {
	t.Helper()
	if v, e, place := Query(s, text, now, lookback); e != want || place != 0 || exact(v) != exact(api.Value{}) {
		t.Errorf("%s at %d: %s, %d, %d, not %d", text, now, exact(v), e, place, want)
	}
}

func first() []api.Series {
	return []api.Series{ser(`m{a="1"}`, at(10*second, 1), at(20*second, 3))}
}

func TestExamples(t *testing.T) {
	s := stored(t, first())
	for text, want := range map[string]string{"m": `m{a="1"} 3`, "sum(m) + 1": "{} 4", "m offset 10s": `m{a="1"} 1`, "m[1m]": `m{a="1"} 1@10000 3@20000`} {
		says(t, s, text, 25*second, want)
	}
	says(t, s, "time()", 1500, "1.5")
	says(t, s, `absent(nope{x="y"})`, 0, `{x="y"} 1`)
	if v, e, place := Query(s, "1 +", 0, lookback); e != api.ErrSyntax || place != 3 || exact(v) != exact(api.Value{}) {
		t.Error(v, e, place)
	}
	h := stored(t, []api.Series{ser(`h{le="1"}`, at(0, 2)), ser(`h{le="2"}`, at(0, 4)), ser(`h{le="+Inf"}`, at(0, 4))})
	says(t, h, "histogram_quantile(0.5, h)", 0, "{} 1")
}

// shop is what most tests below ask of: at 100 s.
func shop() []api.Series {
	return []api.Series{
		ser(`m{a="1",b="x"}`, at(70*second, 1), at(80*second, 2), at(90*second, 4)),
		ser(`m{a="1",b="y"}`, at(70*second, 5), at(80*second, 7), at(90*second, 3)),
		ser(`m{a="2"}`, at(70*second, 1), at(80*second, 2), at(90*second, stale)),
		ser(`n{a="1"}`, at(60*second, -2.5), at(95*second, 0.5)),
		ser(`n{a="3"}`, at(0, 9), at(95*second, -0.5)),
	}
}

func TestP18_1_Nodes(t *testing.T) {
	s := stored(t, shop())
	for text, want := range map[string]string{
		"1.5": "1.5", "NaN": "NaN", "-NaN": "NaN", "-Inf": "-Inf", "-0": "-0", "--1": "1", "(2)": "2", "-(1 - 1)": "-0",
		`"x\n"`: `"x\n"`, `("x")`: `"x"`, `""`: `""`,
		"m": "m{a=\"1\",b=\"x\"} 4\nm{a=\"1\",b=\"y\"} 3", "(m)": "m{a=\"1\",b=\"x\"} 4\nm{a=\"1\",b=\"y\"} 3", `{a="3"}`: `n{a="3"} -0.5`, `m{b!=""}`: "m{a=\"1\",b=\"x\"} 4\nm{a=\"1\",b=\"y\"} 3", `m{a="2"}`: "", `m{a="2"} offset 11s`: `m{a="2"} 2`, `m{a="2"} offset 10s`: "", "nope": "",
		`n[1m]`: "n{a=\"1\"} -2.5@60000 0.5@95000\nn{a=\"3\"} -0.5@95000", `n[40001ms]`: "n{a=\"1\"} -2.5@60000 0.5@95000\nn{a=\"3\"} -0.5@95000", `n[40s]`: "n{a=\"1\"} 0.5@95000\nn{a=\"3\"} -0.5@95000", `m{a="2"}[1m]`: `m{a="2"} 1@70000 2@80000`, `m{a="2"}[15s]`: "", `m{a="2"}[20s]`: "", `m{a="2"}[20001ms]`: `m{a="2"} 2@80000`, `(m{b="x"}[21s])`: `m{a="1",b="x"} 2@80000 4@90000`, "nope[1m]": "", `m{b="x"}[15s] offset 5s`: `m{a="1",b="x"} 4@90000`, `m{b="x"}[16s] offset 5s`: `m{a="1",b="x"} 2@80000 4@90000`,
		"-n": "{a=\"1\"} -0.5\n{a=\"3\"} 0.5", "1 + 2": "3", "7 % 4 ^ 2": "7", "1 > bool 2": "0", "1 <= bool 1": "1", "NaN == bool NaN": "0", "NaN != bool 1": "1", "1 / 0": "+Inf", "0 / 0": "NaN",
		"1 - n": "{a=\"1\"} 0.5\n{a=\"3\"} 1.5", "n - 1": "{a=\"1\"} -0.5\n{a=\"3\"} -1.5", "n > 0": `n{a="1"} 0.5`, "0 > n": `n{a="3"} -0.5`, "n > bool 0": "{a=\"1\"} 1\n{a=\"3\"} 0", "0 < bool n": "{a=\"1\"} 1\n{a=\"3\"} 0",
		"n + n": "{a=\"1\"} 1\n{a=\"3\"} -1", "n - on (a) n": "{a=\"1\"} 0\n{a=\"3\"} 0", "m * on (a) group_left () n": "{a=\"1\",b=\"x\"} 2\n{a=\"1\",b=\"y\"} 1.5", "n and on (a) m": `n{a="1"} 0.5`, "n unless on (a) m": `n{a="3"} -0.5`, "n or m": "m{a=\"1\",b=\"x\"} 4\nm{a=\"1\",b=\"y\"} 3\nn{a=\"1\"} 0.5\nn{a=\"3\"} -0.5",
		"sum(m)": "{} 7", "sum by (b) (m)": "{b=\"x\"} 4\n{b=\"y\"} 3", "sum without (b) (m)": `{a="1"} 7`, "topk(1, m)": `m{a="1",b="x"} 4`, "topk(scalar(vector(1)), m)": `m{a="1",b="x"} 4`, "quantile(0.5, m)": "{} 3.5", `count_values("v", m)`: "{v=\"3\"} 1\n{v=\"4\"} 1", `count_values by (a) (("v"), m)`: "{a=\"1\",v=\"3\"} 1\n{a=\"1\",v=\"4\"} 1", "sum(nope)": "", "count(nope) or vector(0)": "{} 0",
		"time()": "100", "vector(time() + 1)": "{} 101", "vector(NaN)": "{} NaN", "scalar(sum(m))": "7", "scalar(m)": "NaN", "scalar(nope)": "NaN", `scalar(m{b="x"})`: "4",
		"sort(n)": "n{a=\"1\"} 0.5\nn{a=\"3\"} -0.5", "sort_desc(n)": "n{a=\"1\"} 0.5\nn{a=\"3\"} -0.5", "sort_desc(-n)": "{a=\"1\"} -0.5\n{a=\"3\"} 0.5",
		"abs(n)": "{a=\"1\"} 0.5\n{a=\"3\"} 0.5", "ceil(n)": "{a=\"1\"} 1\n{a=\"3\"} -0", "floor(n)": "{a=\"1\"} 0\n{a=\"3\"} -1", "round(n)": "{a=\"1\"} 1\n{a=\"3\"} 0", "sqrt(m)": "{a=\"1\",b=\"x\"} 2\n{a=\"1\",b=\"y\"} 1.7320508075688772", "sgn(n)": "{a=\"1\"} 1\n{a=\"3\"} -1",
	} {
		says(t, s, text, 100*second, want)
		holds(t, s, shop(), text, 100*second, lookback)
	}
	// Of each kind what it has, and nothing else.
	for text, want := range map[string]api.Value{
		"1": {Kind: api.VScalar, V: 1}, `"a"`: {Kind: api.VString, Text: "a"}, `n{a="1"}`: {Kind: api.VVector, Points: []api.Point{{Labels: of("__name__", "n", "a", "1"), V: 0.5}}},
		`n{a="1"}[10s]`: {Kind: api.VMatrix, Series: []api.Series{ser(`n{a="1"}`, at(95*second, 0.5))}}, "nope": {Kind: api.VVector}, "nope[1s]": {Kind: api.VMatrix},
	} {
		if v, e, _ := Query(s, text, 100*second, lookback); e != api.OK || exact(v) != exact(want) {
			t.Error(text, exact(v), e)
		}
	}
}

func TestP18_1_OverTime(t *testing.T) {
	series := shop()
	s := stored(t, series)
	for text, want := range map[string]string{
		"sum_over_time(m[1m])": "{a=\"1\",b=\"x\"} 7\n{a=\"1\",b=\"y\"} 15\n{a=\"2\"} 3", "avg_over_time(m[21s])": "{a=\"1\",b=\"x\"} 3\n{a=\"1\",b=\"y\"} 5\n{a=\"2\"} 2", "min_over_time(m[1m])": "{a=\"1\",b=\"x\"} 1\n{a=\"1\",b=\"y\"} 3\n{a=\"2\"} 1", "max_over_time(m[1m])": "{a=\"1\",b=\"x\"} 4\n{a=\"1\",b=\"y\"} 7\n{a=\"2\"} 2", "count_over_time(m[1m])": "{a=\"1\",b=\"x\"} 3\n{a=\"1\",b=\"y\"} 3\n{a=\"2\"} 2",
		// last_over_time keeps the name.
		"last_over_time(m[1m])": "m{a=\"1\",b=\"x\"} 4\nm{a=\"1\",b=\"y\"} 3\nm{a=\"2\"} 2", "present_over_time(m[1m])": "{a=\"1\",b=\"x\"} 1\n{a=\"1\",b=\"y\"} 1\n{a=\"2\"} 1", "quantile_over_time(0.5, m[1m])": "{a=\"1\",b=\"x\"} 2\n{a=\"1\",b=\"y\"} 5\n{a=\"2\"} 1.5", "quantile_over_time(2, (m[1m]))": "{a=\"1\",b=\"x\"} +Inf\n{a=\"1\",b=\"y\"} +Inf\n{a=\"2\"} +Inf",
		"changes(m[1m])": "{a=\"1\",b=\"x\"} 2\n{a=\"1\",b=\"y\"} 2\n{a=\"2\"} 1", "resets(m[1m])": "{a=\"1\",b=\"x\"} 0\n{a=\"1\",b=\"y\"} 1\n{a=\"2\"} 0", "idelta(m[1m])": "{a=\"1\",b=\"x\"} 2\n{a=\"1\",b=\"y\"} -4\n{a=\"2\"} 1", "irate(m[1m])": "{a=\"1\",b=\"x\"} 0.2\n{a=\"1\",b=\"y\"} 0.3\n{a=\"2\"} 0.1",
		// The window is the selector's: of 60 s, from 40 s to 100 s (y is 20 + 5 + 10).
		`delta(m{b="x"}[1m])`: `{a="1",b="x"} 5.25`, `increase(m{b="x"}[1m])`: `{a="1",b="x"} 5.5`, `rate(m{b="x"}[1m])`: `{a="1",b="x"} 0.09166666666666666`, `rate(m{b="x"}[40s])`: `{a="1",b="x"} 0.13749999999999998`,
		// With an offset it lies that much earlier.
		`increase(m{b="x"}[30s] offset 10s)`: `{a="1",b="x"} 4`, `last_over_time(m{b="x"}[1m] offset 15s)`: `m{a="1",b="x"} 2`,
		// Those without a value are left out.
		"rate(n[20s])": "", "rate(n[1m])": `{a="1"} 0.08571428571428572`, "rate(m[20s])": "", "sum_over_time(nope[1m])": "", `sum_over_time(m{a="2"}[20s])`: "",
	} {
		holds(t, s, series, text, 100*second, lookback)
		says(t, s, text, 100*second, want)
	}
	for _, name := range over.Names() {
		text := name + "(m[1m])"
		if name == "quantile_over_time" {
			text = name + "(0.3, m[1m])"
		}
		for _, now := range []int64{0, 69 * second, 70 * second, 80 * second, 95 * second, 100 * second, 130*second - 1, 130 * second, 150 * second, 1 << 50} {
			holds(t, s, series, text, now, lookback)
		}
	}
	// Without their names two may be one; with them they are two.
	two := stored(t, []api.Series{ser(`m{a="1"}`, at(1, 1)), ser(`n{a="1"}`, at(1, 2))})
	faults(t, two, `count_over_time({a="1"}[1m])`, 5, api.ErrMany)
	faults(t, two, `abs({a="1"})`, 5, api.ErrMany)
	says(t, two, `last_over_time({a="1"}[1m])`, 5, "m{a=\"1\"} 1\nn{a=\"1\"} 2")
	says(t, two, `rate({a="1"}[1m])`, 5, "")
	says(t, two, `clamp({a="1"}, 2, 1)`, 5, "")
}

func TestP18_1_Faults(t *testing.T) {
	s := stored(t, first())
	fine, refusedForm := tree(t, "m"), api.Tree{Nodes: []api.Node{{Kind: 99}}}
	for _, x := range []struct {
		s            *store.Store
		t            api.Tree
		at, lookback int64
		want         api.Errno
	}{
		{nil, fine, 0, 1, api.ErrNil}, {nil, api.Tree{}, -1, 0, api.ErrNil}, {nil, tree(t, "foo(1)"), -1, 1, api.ErrNil},
		{s, api.Tree{}, 0, 1, api.ErrForm}, {s, refusedForm, 0, 1, api.ErrForm}, {s, refusedForm, -1, 0, api.ErrForm}, {s, tree(t, "1 > 2"), 0, 1, api.ErrType}, {s, tree(t, "1 > 2"), -1, 0, api.ErrType}, {s, tree(t, `{a=""}`), 0, 1, api.ErrType}, {s, tree(t, `m{a=~"("}`), 0, 1, api.ErrRegex}, {s, tree(t, "foo(1)"), 0, 1, api.ErrOp}, {s, tree(t, "foo(1)"), -1, 1, api.ErrOp}, {s, tree(t, "sum(m[1m])"), 0, 1, api.ErrType}, {s, tree(t, `label_join(m, "1", "")`), 0, 1, api.ErrType},
		{s, fine, -1, 1, api.ErrArg}, {s, fine, 1<<50 + 1, 1, api.ErrArg}, {s, fine, math.MinInt64, 1, api.ErrArg}, {s, fine, math.MaxInt64, 1, api.ErrArg}, {s, fine, 0, 0, api.ErrArg}, {s, fine, 0, -1, api.ErrArg}, {s, fine, 0, 1<<40 + 1, api.ErrArg}, {s, fine, 0, math.MinInt64, api.ErrArg}, {s, fine, 0, math.MaxInt64, api.ErrArg}, {s, tree(t, "1"), -1, 0, api.ErrArg}, {s, tree(t, `"a"`), 0, 0, api.ErrArg},
		{s, fine, 0, 1, api.OK}, {s, fine, 0, 1 << 40, api.OK}, {s, fine, 1 << 50, 1, api.OK}, {s, fine, 1 << 50, 1 << 40, api.OK},
	} {
		if v, e := Instant(x.s, x.t, x.at, x.lookback); e != x.want || e != api.OK && exact(v) != exact(api.Value{}) {
			t.Error(x.t, x.at, x.lookback, exact(v), e, x.want)
		}
		if x.s == nil {
			continue
		}
		if text, e := parse.Print(x.t); e == api.OK {
			if v, e, place := Query(x.s, text, x.at, x.lookback); e != x.want || place != 0 || e != api.OK && exact(v) != exact(api.Value{}) {
				t.Error(text, exact(v), e, place)
			}
		}
	}
	// Of a text that is none the place, ahead of all else.
	for _, x := range []struct {
		text  string
		want  api.Errno
		place int
	}{{"", api.ErrSyntax, 0}, {"1 +", api.ErrSyntax, 3}, {"m[5m", api.ErrSyntax, 4}, {"m !", api.ErrToken, 2}, {"m[100000y]", api.ErrLarge, 2}, {strings.Repeat("(", 51) + "1" + strings.Repeat(")", 51), api.ErrDeep, 50}, {strings.Repeat(" ", 65537), api.ErrSize, 0}, {"\xff", api.ErrToken, 0}} {
		for _, s := range []*store.Store{s, nil} {
			for _, now := range []int64{0, -1} {
				if v, e, place := Query(s, x.text, now, 0); e != x.want || place != x.place || exact(v) != exact(api.Value{}) {
					t.Error(x.text, exact(v), e, place)
				}
			}
		}
	}
	if _, e, place := Query(nil, "m", -1, 0); e != api.ErrNil || place != 0 {
		t.Error(e, place)
	}
}

func TestP18_1_FirstFault(t *testing.T) {
	long := strings.Repeat("v", 200)
	s := stored(t, []api.Series{ser(`m{a="1"}`, at(0, 1)), ser(`m{a="2"}`, at(0, 2)), ser(`n{a="1"}`, at(0, 1)), ser(`k{a="`+long+`"}`, at(0, 1))})
	join := `label_join(k, "b", "", "a", "a")` // ErrSize
	many := "(m + on () m)"                    // ErrMany
	word := "sum by (b_) (m)"
	for text, want := range map[string]api.Errno{
		join: api.ErrSize, many: api.ErrMany, join + " + " + many: api.ErrSize, many + " + " + join: api.ErrMany, "m + on (a) (" + join + " or " + many + ")": api.ErrSize, `abs({a="1"}) + ` + join: api.ErrMany, join + ` + abs({a="1"})`: api.ErrSize,
		// A part is reckoned ahead of what it is a part of; a parameter ahead of its argument.
		"topk(scalar(" + many + "), " + join + ")": api.ErrMany, "topk(scalar(" + join + "), " + many + ")": api.ErrSize, "clamp(" + many + ", scalar(" + join + "), 1)": api.ErrMany, "clamp(m, scalar(" + join + "), scalar(" + many + "))": api.ErrSize,
		// Even of what is of no matter.
		"clamp(" + join + ", 2, 1)": api.ErrSize, "absent(" + many + ")": api.ErrMany, "vector(1) or " + join: api.ErrSize, "0 * scalar(" + many + ")": api.ErrMany, `-{a="1"}`: api.ErrMany, `{a="1"} * 2`: api.ErrMany, `2 * {a="1"}`: api.ErrMany, word: api.OK,
	} {
		faults2(t, s, text, want)
	}
	// aggr's and vec's errors of names that are none of a label (a word may have a colon).
	for _, text := range []string{"sum by (" + strings.Repeat("n", 65) + ") (m)", "m + on (" + strings.Repeat("n", 65) + ") m"} {
		if x, e, _ := parse.Parse(text); e == api.OK {
			if _, e, _ := parse.Check(x); e == api.OK {
				faults(t, s, text, 0, api.ErrName)
			}
		}
	}
	// count_values that has no room: ErrFull.
	var full []api.Label
	for i := range 16 {
		full = append(full, api.Label{Name: fmt.Sprintf("l%02d", i), Value: "v"})
	}
	f := stored(t, []api.Series{{Labels: full, Samples: []api.Sample{at(0, 1)}}})
	faults(t, f, `count_values without () ("v", {l00="v"})`, 0, api.ErrFull)
	faults(t, f, `label_join({l00="v"}, "v", "", "l00")`, 0, api.ErrFull)
	says(t, f, `count(label_join({l00="v"}, "v", ""))`, 0, "{} 1")
	says(t, f, `count(label_join({l00="v"}, "l03", "", "l00"))`, 0, "{} 1")
	faults(t, f, `{l00="v"} * on () group_left (x) label_join(vector(1), "x", "y", "a", "b")`, 0, api.ErrLabel)
}

func faults2(t *testing.T, s *store.Store, text string, want api.Errno) {
	t.Helper()
	if want != api.OK {
		faults(t, s, text, 0, want)
	} else if _, e, _ := Query(s, text, 0, lookback); e != want {
		t.Error(text, e, want)
	}
}

func TestP18_1_BelowZero(t *testing.T) {
	series := []api.Series{ser("m", at(0, 1), at(5, 2), at(10, 4))}
	s := stored(t, series)
	for _, x := range []struct {
		text string
		now  int64
		want string
	}{
		{"m", 0, "m 1"}, {"m offset 1ms", 0, ""}, {"m offset 1ms", 1, "m 1"}, {"m offset 10ms", 9, ""}, {"m offset 10ms", 10, "m 1"}, {"m offset 34y", 10, ""}, {"m offset 1h", 1 << 50, ""},
		{"m[1ms]", 0, "m 1@0"}, {"m[1y]", 0, "m 1@0"}, {"m[1y]", 10, "m 1@0 2@5 4@10"}, {"m[10ms]", 10, "m 2@5 4@10"}, {"m[11ms]", 10, "m 1@0 2@5 4@10"}, {"m[1y] offset 1ms", 0, ""}, {"m[1y] offset 5ms", 10, "m 1@0 2@5"}, {"m[1y] offset 11ms", 10, ""},
		{"sum_over_time(m[1y] offset 11ms)", 10, ""}, {"sum_over_time(m[34y])", 10, "{} 7"}, {"absent_over_time(m[1y] offset 11ms)", 10, "{} 1"}, {"absent(m offset 11ms)", 10, "{} 1"}, {"timestamp(m offset 11ms)", 10, ""}, {"timestamp(m offset 5ms)", 10, "{} 0.005"},
		// The window goes on below 0: delta is stretched by it.
		{"delta(m[20ms])", 10, "{} 3.75"}, {"count_over_time(m[1ms])", 0, "{} 1"},
	} {
		says(t, s, x.text, x.now, x.want)
		holds(t, s, series, x.text, x.now, lookback)
		holds(t, s, series, x.text, x.now, 1)
		holds(t, s, series, x.text, x.now, 1<<40)
	}
}

func TestP18_1_Lookback(t *testing.T) {
	series := []api.Series{ser("m", at(1000, 1)), ser("n", at(1000, 1), at(1500, stale)), ser("o", at(1000, otherNaN))}
	s := stored(t, series)
	for _, x := range []struct {
		text          string
		now, lookback int64
		points        int
	}{
		{"m", 999, 300, 0}, {"m", 1000, 300, 1}, {"m", 1000, 1, 1}, {"m", 1001, 1, 0}, {"m", 1299, 300, 1}, {"m", 1300, 300, 0}, {"m", 1300, 301, 1}, {"n", 1499, 1000, 1}, {"n", 1500, 1000, 0}, {"n", 1600, 1000, 0}, {"n", 1600, 50, 0}, {"m offset 300ms", 1599, 300, 1}, {"m offset 300ms", 1600, 300, 0},
	} {
		v, _ := holds(t, s, series, x.text, x.now, x.lookback)
		if len(v.Points) != x.points {
			t.Error(x, exact(v))
		}
	}
	// Points have their bits as they were stored, where they are handed on; elsewhere the NaN.
	for text, bits := range map[string]uint64{
		"o": 0xfff8000000000123, "(o)": 0xfff8000000000123, "sort(o)": 0xfff8000000000123, "sort_desc(o)": 0xfff8000000000123, `label_join(o, "x", "")`: 0xfff8000000000123, "topk(1, o)": 0xfff8000000000123, "bottomk(1, o)": 0xfff8000000000123, "o and o": 0xfff8000000000123, "o or m": 0xfff8000000000123, "o unless nope": 0xfff8000000000123, "o != 1": 0xfff8000000000123, "o != o": 0xfff8000000000123,
		"-o": store.NaN, "abs(o)": store.NaN, "ceil(o)": store.NaN, "floor(o)": store.NaN, "round(o)": store.NaN, "sqrt(o)": store.NaN, "sgn(o)": store.NaN, "clamp(o, 0, 1)": store.NaN, "clamp_min(o, 0)": store.NaN, "clamp_max(o, 0)": store.NaN, "vector(scalar(o))": store.NaN, "last_over_time(o[1s])": store.NaN, "max_over_time(o[1s])": store.NaN, "o + 0": store.NaN, "sum(o)": store.NaN, "vector(-scalar(o))": store.NaN, "max(o)": store.NaN,
	} {
		v, e, _ := Query(s, text, 1000, 1)
		if e != api.OK || len(v.Points) == 0 || math.Float64bits(v.Points[len(v.Points)-1].V) != bits {
			t.Error(text, exact(v), e)
		}
	}
	if v, e, _ := Query(s, "scalar(o)", 1000, 1); e != api.OK || math.Float64bits(v.V) != store.NaN {
		t.Error(exact(v), e)
	}
	if v, e, _ := Query(s, "o[1s]", 1000, 1); e != api.OK || math.Float64bits(v.Series[0].Samples[0].V) != 0xfff8000000000123 {
		t.Error(exact(v), e)
	}
}

// thick answers a series of n samples at the times from on, one behind the other.
func thick(set string, from int64, n int) api.Series {
	s := ser(set)
	for i := range int64(n) {
		s.Samples = append(s.Samples, at(from+i, float64(i%5)))
	}
	return s
}

func TestP18_1_Large(t *testing.T) {
	// 60000 and 40000 samples in the head, one more (and a stale one) in a block.
	more := []api.Series{ser("one", at(70000, 1)), ser("past", at(70000, stale))}
	s := stored(t, []api.Series{thick("m", 0, 60000), thick("n", 0, 40000)}, more)
	const now = 80000
	for _, x := range []struct {
		text string
		want api.Errno
	}{
		{"count_over_time(m[1h])", api.OK}, {`last_over_time({__name__=~"m|n"}[1h])`, api.OK}, {`last_over_time({__name__=~"m|n|one"}[1h])`, api.ErrLarge},
		// A stale marker is a sample that is read.
		{`last_over_time({__name__=~"m|n|past"}[1h])`, api.ErrLarge},
		{"count_over_time(m[1h]) + count_over_time(n[1h])", api.OK}, {"count_over_time(m[1h]) + count_over_time(m[1h])", api.ErrLarge}, {"count_over_time(m[1h]) + count_over_time(n[1h]) + one", api.ErrLarge}, {"one + count_over_time(m[1h]) + count_over_time(n[1h])", api.ErrLarge}, {"count_over_time(m[1h]) + count_over_time(n[1h]) + past", api.OK}, {"count_over_time(m[1h]) + count_over_time(n[1h]) + count_over_time(past[1h])", api.ErrLarge}, {"count_over_time(m[1h]) + count_over_time(n[1h]) + nope", api.OK},
		// What is told counts, not what is kept of it: forty thousand twice, and twenty of m.
		{"count_over_time(n[1h]) + count_over_time(n[1h]) + count_over_time(m[40001ms])", api.OK}, {"count_over_time(n[1h]) + count_over_time(n[1h]) + count_over_time(m[40002ms])", api.ErrLarge},
		// The first error, node by node: ErrMany stands ahead of the selector that is too much, or behind it.
		{"(vector(1) + on () {__name__=~\"m|n\"}) + count_over_time(m[1h]) + count_over_time(m[1h])", api.ErrMany}, {"count_over_time(m[1h]) + count_over_time(m[1h]) + (vector(1) + on () {__name__=~\"m|n\"})", api.ErrLarge},
		// timestamp reads no more by itself than the store may tell.
		{"timestamp(m)", api.OK}, {"timestamp(m) + timestamp(m) + timestamp(m)", api.OK}, {`timestamp({__name__=~"m|n"})`, api.ErrMany}, {`timestamp({__name__=~"m|n|one"})`, api.ErrLarge},
	} {
		v, e, _ := Query(s, x.text, now, lookback)
		if e != x.want || e != api.OK && exact(v) != exact(api.Value{}) {
			t.Error(x.text, exact(v), e, x.want)
		}
	}
	// Points count, too: a thousand at a time, a hundred times, and once more.
	var wide []api.Series
	for i := range 1000 {
		wide = append(wide, ser(fmt.Sprintf(`w{i="%d"}`, i), at(0, 1)))
	}
	w := stored(t, wide, []api.Series{ser(`v{i="x"}`, at(0, 1))})
	hundred := "count(w)" + strings.Repeat(" + count(w)", 99)
	says(t, w, hundred, 0, "{} 100000")
	faults(t, w, hundred+" + count(v)", 0, api.ErrLarge)
	faults(t, w, "count(v) + "+hundred, 0, api.ErrLarge)
	says(t, w, "count(w) + count(v)", 0, "{} 1001")
	faults(t, w, `count({i!=""})`, 0, api.ErrLarge) // more than MaxPoints
	faults(t, w, `count_over_time({i!=""}[1s])`, 0, api.ErrLarge)
	says(t, w, `count(count_over_time(w[1s]))`, 0, "{} 1000")
	if v, e, _ := Query(w, `{i!=""}[1s]`, 0, 1); e != api.OK || len(v.Series) != 1001 {
		t.Error(len(v.Series), e)
	}
}

func TestP18_1_Absent(t *testing.T) {
	s := stored(t, first())
	for matchers, want := range map[string]string{
		"nope": "{} 1", `nope{x="y"}`: `{x="y"} 1`, `nope{x="y",a="b"}`: `{a="b",x="y"} 1`, `{__name__="nope"}`: "{} 1", `{__name__="nope",x="y"}`: `{x="y"} 1`,
		// A name twice, the same value too; other operators.
		`nope{x="y",x="y"}`: "{} 1", `nope{x="y",x="z"}`: "{} 1", `nope{x="y",x="z",a="b"}`: `{a="b"} 1`, `nope{x="y",x!="z"}`: "{} 1", `nope{x=~"y",x="z"}`: "{} 1", `nope{x!="y"}`: "{} 1", `nope{x=~"y"}`: "{} 1", `nope{x!~"y",a="b"}`: `{a="b"} 1`, `nope{x="",x="y"}`: "{} 1",
		// An empty value.
		`nope{x=""}`: "{} 1", `nope{x="",a="b"}`: `{a="b"} 1`,
		`m{a="2"}`: `{a="2"} 1`, `m{a="1"}`: "", "m": "",
	} {
		for _, now := range []int64{20 * second, 30 * second} {
			says(t, s, "absent("+matchers+")", now, want)
			says(t, s, "absent((("+matchers+")))", now, want)
			says(t, s, "absent_over_time("+matchers+"[1m])", now, want)
			says(t, s, "absent_over_time((("+matchers+"[1m])))", now, want)
			says(t, s, "absent("+matchers+" offset 5s)", now, want)
			says(t, s, "absent_over_time("+matchers+"[1m] offset 5s)", now, want)
		}
	}
	// What is no selector.
	for text, want := range map[string]string{`absent(abs(nope{x="y"}))`: "{} 1", `absent(-nope{x="y"})`: "{} 1", `absent(sum(nope{x="y"}))`: "{} 1", `absent(nope{x="y"} > 1)`: "{} 1", `absent(sort(nope{x="y"}))`: "{} 1", `absent(+nope{x="y"})`: `{x="y"} 1`, "absent(vector(1))": "", "absent(absent(m))": "{} 1", "absent(absent(nope))": "", `absent(m > 100)`: "{} 1"} {
		says(t, s, text, 20*second, want)
	}
	// A series that has ended is absent; so is one that is too old.
	over := stored(t, []api.Series{ser(`m{a="1"}`, at(0, 1), at(10*second, stale))})
	says(t, over, `absent(m{a="1"})`, 9*second, "")
	says(t, over, `absent(m{a="1"})`, 10*second, `{a="1"} 1`)
	says(t, over, `absent_over_time(m{a="1"}[10s])`, 10*second, `{a="1"} 1`)
	says(t, over, `absent_over_time(m{a="1"}[10001ms])`, 10*second, "")
	says(t, over, `absent(m{a="1"})`, 310*second, `{a="1"} 1`)
}

func TestP18_1_Numbers(t *testing.T) {
	for _, x := range []struct {
		call string // of v
		v    float64
		want float64
	}{
		{"abs(v)", -1.5, 1.5}, {"abs(v)", minusZero, 0}, {"abs(v)", -inf, inf}, {"abs(v)", otherNaN, nan},
		{"ceil(v)", 0, 0}, {"ceil(v)", minusZero, minusZero}, {"ceil(v)", -0.5, minusZero}, {"ceil(v)", -5e-324, minusZero}, {"ceil(v)", 5e-324, 1}, {"ceil(v)", 1.5, 2}, {"ceil(v)", -1.5, -1}, {"ceil(v)", 2, 2}, {"ceil(v)", inf, inf}, {"ceil(v)", -inf, -inf}, {"ceil(v)", nan, nan}, {"ceil(v)", 1e300, 1e300}, {"ceil(v)", 4503599627370495.5, 4503599627370496},
		{"floor(v)", 0, 0}, {"floor(v)", minusZero, minusZero}, {"floor(v)", 0.5, 0}, {"floor(v)", -0.5, -1}, {"floor(v)", -5e-324, -1}, {"floor(v)", 1.5, 1}, {"floor(v)", inf, inf}, {"floor(v)", -inf, -inf}, {"floor(v)", otherNaN, nan}, {"floor(v)", -4503599627370495.5, -4503599627370496},
		{"round(v)", 0, 0}, {"round(v)", minusZero, 0}, {"round(v)", 0.5, 1}, {"round(v)", -0.5, 0}, {"round(v)", 1.5, 2}, {"round(v)", 2.5, 3}, {"round(v)", -1.5, -1}, {"round(v)", -2.5, -2}, {"round(v)", -0.6, -1}, {"round(v)", 0.49999999999999994, 1}, {"round(v)", inf, inf}, {"round(v)", -inf, -inf}, {"round(v)", nan, nan}, {"round(v)", -0.3, 0},
		{"sqrt(v)", 4, 2}, {"sqrt(v)", 2, 1.4142135623730951}, {"sqrt(v)", 0, 0}, {"sqrt(v)", minusZero, minusZero}, {"sqrt(v)", -1, nan}, {"sqrt(v)", inf, inf}, {"sqrt(v)", -inf, nan}, {"sqrt(v)", otherNaN, nan},
		{"sgn(v)", 3, 1}, {"sgn(v)", -3, -1}, {"sgn(v)", 0, 0}, {"sgn(v)", minusZero, minusZero}, {"sgn(v)", inf, 1}, {"sgn(v)", -inf, -1}, {"sgn(v)", nan, nan}, {"sgn(v)", 5e-324, 1},
		{"clamp(v, 1, 3)", 2, 2}, {"clamp(v, 1, 3)", 0, 1}, {"clamp(v, 1, 3)", 4, 3}, {"clamp(v, 1, 3)", 1, 1}, {"clamp(v, 1, 3)", 3, 3}, {"clamp(v, 1, 3)", inf, 3}, {"clamp(v, 1, 3)", -inf, 1}, {"clamp(v, 1, 3)", nan, nan}, {"clamp(v, 2, 2)", 5, 2}, {"clamp(v, NaN, 3)", 2, nan}, {"clamp(v, NaN, 3)", 4, nan}, {"clamp(v, 1, NaN)", 0, nan}, {"clamp(v, 1, NaN)", 2, nan}, {"clamp(v, NaN, NaN)", 2, nan}, {"clamp(v, -Inf, Inf)", 2, 2}, {"clamp(v, 0, 3)", minusZero, minusZero}, {"clamp(v, 0, -0)", 1, minusZero}, {"clamp(v, 0, -0)", -1, 0}, {"clamp(v, -0, 0)", 1, 0},
		{"clamp_min(v, 1)", 0, 1}, {"clamp_min(v, 1)", 2, 2}, {"clamp_min(v, 1)", 1, 1}, {"clamp_min(v, NaN)", 1, nan}, {"clamp_min(v, 1)", otherNaN, nan}, {"clamp_min(v, 0)", minusZero, minusZero}, {"clamp_min(v, Inf)", 1, inf}, {"clamp_min(v, 1)", -inf, 1},
		{"clamp_max(v, 1)", 0, 0}, {"clamp_max(v, 1)", 2, 1}, {"clamp_max(v, 1)", 1, 1}, {"clamp_max(v, NaN)", 1, nan}, {"clamp_max(v, 1)", otherNaN, nan}, {"clamp_max(v, -0)", 0, 0}, {"clamp_max(v, -Inf)", 1, -inf}, {"clamp_max(v, 1)", inf, 1},
		{"clamp_max(v, time())", 7, 0}, {"vector(scalar(v))", minusZero, minusZero}, {"-v", 0, minusZero}, {"-v", minusZero, 0},
	} {
		series := []api.Series{ser(`v{a="1"}`, at(0, x.v))}
		s := stored(t, series)
		v, e := holds(t, s, series, x.call, 0, 1)
		if e != api.OK || len(v.Points) != 1 || !same(v.Points[0].V, x.want) {
			t.Error(x.call, x.v, exact(v), e)
		} else if set := v.Points[0].Labels; x.call != "vector(scalar(v))" && !slices.Equal(set, of("a", "1")) {
			t.Error(x.call, set)
		}
	}
	s := stored(t, []api.Series{ser(`v{a="1"}`, at(0, 1)), ser(`v{a="2"}`, at(0, 2))})
	for _, text := range []string{"clamp(v, 2, 1)", "clamp(v, Inf, -Inf)", "clamp(v, 5e-324, 0)", "clamp(nope, 1, 2)", "abs(nope)"} {
		says(t, s, text, 0, "")
	}
}

func TestP18_1_Timestamp(t *testing.T) {
	series := []api.Series{
		ser(`m{a="1"}`, at(10*second, 1), at(20500, 3)), ser(`m{a="2"}`, at(5*second, 1), at(22*second, stale)), ser(`m{a="3"}`, at(5*second, 1), at(22*second, stale), at(23*second, 2)), ser(`m{a="4"}`, at(1, nan)), ser("n", at(30*second, 1)),
	}
	s := stored(t, series)
	for _, x := range []struct {
		text string
		now  int64
		want string
	}{
		{"timestamp(m)", 25 * second, "{a=\"1\"} 20.5\n{a=\"3\"} 23\n{a=\"4\"} 0.001"}, {"timestamp(((m)))", 25 * second, "{a=\"1\"} 20.5\n{a=\"3\"} 23\n{a=\"4\"} 0.001"}, {"timestamp(m)", 20499, "{a=\"1\"} 10\n{a=\"2\"} 5\n{a=\"3\"} 5\n{a=\"4\"} 0.001"}, {"timestamp(m)", 0, ""}, {"timestamp(m)", 20 * second, "{a=\"1\"} 10\n{a=\"2\"} 5\n{a=\"3\"} 5\n{a=\"4\"} 0.001"}, {"timestamp(m)", 15 * second, "{a=\"1\"} 10\n{a=\"2\"} 5\n{a=\"3\"} 5\n{a=\"4\"} 0.001"}, {"timestamp(m)", 305 * second, "{a=\"1\"} 20.5\n{a=\"3\"} 23"}, {"timestamp(m)", 320500, `{a="3"} 23`}, {"timestamp(m)", 400 * second, ""}, {"timestamp(nope)", 25 * second, ""},
		// The sample's own time, not that of the expression; nor moved by the offset.
		{"timestamp(m offset 5s)", 25500, "{a=\"1\"} 20.5\n{a=\"2\"} 5\n{a=\"3\"} 5\n{a=\"4\"} 0.001"}, {"timestamp((m{a=\"1\"} offset 10s))", 25 * second, `{a="1"} 10`}, {"timestamp(m offset 1h)", 25 * second, ""},
		// Of any other vector the time of the expression.
		{`timestamp(-m{a="1"})`, 25 * second, `{a="1"} 25`}, {`timestamp(m{a="1"} + 0)`, 25001, `{a="1"} 25.001`}, {`timestamp(sort(m{a="1"}))`, 25 * second, `{a="1"} 25`}, {"timestamp(vector(1))", 1, "{} 0.001"}, {`timestamp(timestamp(m{a="1"}))`, 25 * second, `{a="1"} 25`}, {`timestamp(+m{a="1"})`, 25 * second, `{a="1"} 20.5`}, {`timestamp(m{a="1"} > 0)`, 25 * second, `{a="1"} 25`}, {`timestamp(last_over_time(m{a="1"}[1m]))`, 25 * second, `{a="1"} 25`}, {"timestamp(nope + 1)", 25 * second, ""},
	} {
		says(t, s, x.text, x.now, x.want)
		holds(t, s, series, x.text, x.now, 10*second)
		holds(t, s, series, x.text, x.now, 1)
	}
	two := stored(t, []api.Series{ser(`m{a="1"}`, at(1, 1)), ser(`n{a="1"}`, at(1, 2))})
	faults(t, two, `timestamp({a="1"})`, 5, api.ErrMany)
	faults(t, two, `timestamp(sort({a="1"}))`, 5, api.ErrMany)
}

func TestP18_1_LabelJoin(t *testing.T) {
	series := []api.Series{ser(`m{a="1",b="x"}`, at(0, otherNaN)), ser(`m{a="2"}`, at(0, 2))}
	s := stored(t, series)
	for text, want := range map[string]string{
		`label_join(m, "c", "-", "a", "b")`: "m{a=\"1\",b=\"x\",c=\"1-x\"} NaN\nm{a=\"2\",c=\"2-\"} 2", `label_join(m, "c", "", "a", "b")`: "m{a=\"1\",b=\"x\",c=\"1x\"} NaN\nm{a=\"2\",c=\"2\"} 2", `label_join(m, "c", ", ", "b", "a", "b")`: "m{a=\"1\",b=\"x\",c=\"x, 1, x\"} NaN\nm{a=\"2\",c=\", 2, \"} 2",
		// No names, or nothing in them: without that label.
		`label_join(m, "a", "-")`: "m 2\nm{b=\"x\"} NaN", `label_join(m, "c", "-")`: "m{a=\"1\",b=\"x\"} NaN\nm{a=\"2\"} 2", `label_join(m, "c", "-", "b")`: "m{a=\"1\",b=\"x\",c=\"x\"} NaN\nm{a=\"2\"} 2", `label_join(m, "c", "", "zz", "zz")`: "m{a=\"1\",b=\"x\"} NaN\nm{a=\"2\"} 2", `label_join(m, "c", "-", "zz", "zz")`: "m{a=\"1\",b=\"x\",c=\"-\"} NaN\nm{a=\"2\",c=\"-\"} 2",
		// __name__ stays, and may be read, and made.
		`label_join(m, "c", "/", "__name__", "a")`: "m{a=\"1\",b=\"x\",c=\"m/1\"} NaN\nm{a=\"2\",c=\"m/2\"} 2", `label_join(m, "__name__", "_", "__name__", "a")`: "m_1{a=\"1\",b=\"x\"} NaN\nm_2{a=\"2\"} 2", `label_join(m, "__name__", "_")`: "{a=\"1\",b=\"x\"} NaN\n{a=\"2\"} 2", `label_join(m, "__name__", "", "b")`: "x{a=\"1\",b=\"x\"} NaN\n{a=\"2\"} 2",
		`label_join(m, ("b"), ("+"), ("a"), "b")`: "m{a=\"1\",b=\"1+x\"} NaN\nm{a=\"2\",b=\"2+\"} 2", `label_join(vector(1), "x", "é")`: "{} 1", `label_join(vector(1), "x", "é", "a", "b")`: `{x="é"} 1`, `label_join(nope, "x", "", "a")`: "", `label_join(-m, "c", "", "__name__", "a")`: "{a=\"1\",b=\"x\",c=\"1\"} NaN\n{a=\"2\",c=\"2\"} -2",
	} {
		says(t, s, text, 0, want)
		holds(t, s, series, text, 0, 1)
	}
	// Two that come to one.
	faults(t, s, `label_join(label_join(m, "b", ""), "a", "")`, 0, api.ErrMany)
	// labels.With's errors, of the first point that has one.
	v := strings.Repeat("v", 128)
	long := stored(t, []api.Series{ser(`k{a="`+v+`"}`, at(0, 1)), ser(`k{a="w"}`, at(0, 1))})
	if x, e, _ := Query(long, `label_join(k, "b", "", "a", "a")`, 0, 1); e != api.OK || labels.Get(x.Points[0].Labels, "b") != v+v {
		t.Error(exact(x), e)
	}
	faults(t, long, `label_join(k, "b", ".", "a", "a")`, 0, api.ErrSize)
	faults(t, long, `label_join(label_join(k, "b", ".", "a", "a"), "a", "", "c")`, 0, api.ErrSize)
	var full []api.Label
	for i := range 16 {
		full = append(full, api.Label{Name: fmt.Sprintf("l%02d", i), Value: "v"})
	}
	f := stored(t, []api.Series{{Labels: full, Samples: []api.Sample{at(0, 1)}}, {Labels: full[:15], Samples: []api.Sample{at(0, 1)}}})
	faults(t, f, `label_join({l00="v"}, "m", "", "l00")`, 0, api.ErrFull)
	says(t, f, `count(label_join({l00="v",l15=""}, "m", "", "l00"))`, 0, "{} 1")
	says(t, f, `count(label_join({l00="v"}, "l01", "+", "l00", "l02"))`, 0, "{} 2")
}
