package rules

import (
	"fmt"
	"math"
	"slices"
	"strings"
	"testing"

	"tocsin/api"
)

const (
	maxSpan = 1 << 40
	maxTime = 1 << 50
)

func TestP19_1_Rule(t *testing.T) {
	long := func(n int) string { return strings.Repeat("n", n) }
	for _, x := range []struct {
		rule api.Rule
		want api.Errno
	}{
		{api.Rule{Name: "a"}, api.OK},
		{api.Rule{}, api.ErrRule},
		{api.Rule{Name: "any text: \n\x00 \"é\" # "}, api.OK},
		{api.Rule{Name: " "}, api.OK},
		{api.Rule{Name: "1"}, api.OK},
		{api.Rule{Name: long(256)}, api.OK},
		{api.Rule{Name: long(257)}, api.ErrRule},
		{api.Rule{Name: strings.Repeat("é", 128)}, api.OK},
		{api.Rule{Name: strings.Repeat("é", 128) + "e"}, api.ErrRule},
		{api.Rule{Name: "a\xff"}, api.ErrRule},
		{api.Rule{Name: "\xed\xa0\x80"}, api.ErrRule},
		{api.Rule{Name: "é"[:1]}, api.ErrRule},
		{api.Rule{Record: true, Name: "a"}, api.OK},
		{api.Rule{Record: true, Name: "a:b_c9"}, api.OK},
		{api.Rule{Record: true, Name: ":"}, api.OK},
		{api.Rule{Record: true, Name: "_"}, api.OK},
		{api.Rule{Record: true, Name: ":9Z"}, api.OK},
		{api.Rule{Record: true, Name: ""}, api.ErrRule},
		{api.Rule{Record: true, Name: "9"}, api.ErrRule},
		{api.Rule{Record: true, Name: "a b"}, api.ErrRule},
		{api.Rule{Record: true, Name: "a.b"}, api.ErrRule},
		{api.Rule{Record: true, Name: "a-b"}, api.ErrRule},
		{api.Rule{Record: true, Name: "é"}, api.ErrRule},
		{api.Rule{Record: true, Name: "a\xff"}, api.ErrRule},
		{api.Rule{Record: true, Name: long(64)}, api.OK},
		{api.Rule{Record: true, Name: ":" + long(63)}, api.OK},
		{api.Rule{Record: true, Name: long(65)}, api.ErrRule},
		{api.Rule{Record: true, Name: long(256)}, api.ErrRule},
		{api.Rule{Record: true, Name: long(257)}, api.ErrRule},
		{api.Rule{Name: "a", Expr: long(65536)}, api.OK},
		{api.Rule{Name: "a", Expr: long(65537)}, api.ErrRule},
		{api.Rule{Name: "a", Expr: "\xff no expression"}, api.OK},
		{api.Rule{Record: true, Name: "a", Expr: long(65536)}, api.OK},
		{api.Rule{Record: true, Name: "a", Expr: long(65537)}, api.ErrRule},
		{api.Rule{Name: "a", For: 1, Keep: 1}, api.OK},
		{api.Rule{Name: "a", For: maxSpan, Keep: maxSpan}, api.OK},
		{api.Rule{Name: "a", For: maxSpan + 1}, api.ErrRule},
		{api.Rule{Name: "a", Keep: maxSpan + 1}, api.ErrRule},
		{api.Rule{Name: "a", For: -1}, api.ErrRule},
		{api.Rule{Name: "a", Keep: -1}, api.ErrRule},
		{api.Rule{Name: "a", For: math.MinInt64}, api.ErrRule},
		{api.Rule{Name: "a", Keep: math.MaxInt64}, api.ErrRule},
		{api.Rule{Record: true, Name: "a", For: 1}, api.ErrRule},
		{api.Rule{Record: true, Name: "a", Keep: 1}, api.ErrRule},
		{api.Rule{Record: true, Name: "a", For: -1}, api.ErrRule},
		{api.Rule{Record: true, Name: "a", Keep: -1}, api.ErrRule},
		{api.Rule{Name: "a", Labels: []api.Label{}}, api.OK},
		{api.Rule{Name: "a", Labels: of("a", "1", "b", "2")}, api.OK},
		{api.Rule{Name: "a", Labels: many(16)}, api.OK},
		{api.Rule{Name: "a", Labels: of("__name__", "m")}, api.ErrRule},
		{api.Rule{Name: "a", Labels: of("alertname", "m")}, api.ErrRule},
		{api.Rule{Name: "a", Labels: of("a", "1", "alertname", "m", "b", "2")}, api.ErrRule},
		{api.Rule{Name: "a", Labels: of("alertnamed", "m")}, api.OK},
		{api.Rule{Record: true, Name: "a", Labels: of("a", "1", "b", "2")}, api.OK},
		{api.Rule{Record: true, Name: "a", Labels: many(16)}, api.OK},
		{api.Rule{Record: true, Name: "a", Labels: of("__name__", "m")}, api.ErrRule},
		{api.Rule{Record: true, Name: "a", Labels: of("alertname", "m")}, api.ErrRule},
	} {
		if e := Rule(x.rule); e != x.want || (e == api.OK) != ruleModel(x.rule) {
			t.Errorf("Rule(%.200q) = %d, want %d", fmt.Sprint(x.rule), e, x.want)
		}
	}
	for _, set := range wrongSets() {
		for _, record := range []bool{false, true} {
			if e := Rule(api.Rule{Record: record, Name: "a", Labels: set}); e != api.ErrRule {
				t.Error(set, e)
			}
		}
	}
}

// wrongRules are rules of alerts that are not right.
func wrongRules() []api.Rule {
	return []api.Rule{{}, {Name: "a", For: -1}, {Name: "a", Keep: -1}, {Name: "\xff"}, {Name: "a", Expr: strings.Repeat("e", 65537)}, {Name: "a", Labels: of("alertname", "b")}, {Name: "a", Labels: of("b", "")}}
}

func TestP19_1_Labels(t *testing.T) {
	r := api.Rule{Name: "Down", For: 10, Labels: of("severity", "critical", "team", "x")}
	for _, x := range []struct {
		rule api.Rule
		in   []api.Label
		want []api.Label
	}{
		{api.Rule{Name: "Down"}, nil, of("alertname", "Down")},
		{api.Rule{Name: "Down"}, []api.Label{}, of("alertname", "Down")},
		{api.Rule{Name: "Down"}, of("__name__", "up"), of("alertname", "Down")},
		{api.Rule{Name: "Down"}, of("__name__", "up", "job", "a"), of("alertname", "Down", "job", "a")},
		{api.Rule{Name: "Down"}, of("alertname", "Up", "job", "a"), of("alertname", "Down", "job", "a")},
		{api.Rule{Name: "any text\n\""}, of("a", "1"), of("a", "1", "alertname", "any text\n\"")},
		{r, nil, of("alertname", "Down", "severity", "critical", "team", "x")},
		{r, of("severity", "low"), of("alertname", "Down", "severity", "critical", "team", "x")},
		{r, of("Z", "1", "__name__", "up", "alertname", "Up", "job", "a", "team", "y", "z", "2"), of("Z", "1", "alertname", "Down", "job", "a", "severity", "critical", "team", "x", "z", "2")},
		{api.Rule{Record: true, Name: "a:b", Labels: of("c", "d")}, of("__name__", "up"), of("alertname", "a:b", "c", "d")},
	} {
		got, e := Labels(x.rule, x.in)
		if e != api.OK || !slices.Equal(got, x.want) {
			t.Error(x, got, e)
		}
		model, e := labelsModel(x.rule, x.in)
		if e != api.OK || !slices.Equal(got, model) {
			t.Error(x, got, model, e)
		}
	}
}

func TestP19_1_LabelsFull(t *testing.T) {
	plain := api.Rule{Name: "a"}
	marked := api.Rule{Name: "a", Labels: many(15)}
	for _, x := range []struct {
		rule api.Rule
		in   []api.Label
		want int // labels; 0: ErrFull
	}{
		{plain, many(15), 16},
		{plain, many(16), 0},
		{plain, append(of("__name__", "m"), many(15)...), 16},
		{plain, append(of("__name__", "m", "alertname", "b"), many(14)...), 15},
		{plain, append(of("alertname", "b"), many(15)...), 16},
		{marked, nil, 16},
		{marked, of("l000", "x", "l014", "y"), 16},
		{marked, of("m", "x"), 0},
		{marked, of("__name__", "x"), 16},
		{marked, of("alertname", "x"), 16},
		{api.Rule{Name: "a", Labels: many(16)}, nil, 0},
		{api.Rule{Name: "a", Labels: many(16)}, many(16), 0},
		{api.Rule{Name: "a", Labels: of("z", "1")}, many(14), 16},
		{api.Rule{Name: "a", Labels: of("z", "1")}, many(15), 0},
	} {
		got, e := Labels(x.rule, x.in)
		want := api.OK
		if x.want == 0 {
			want = api.ErrFull
		}
		if e != want || len(got) != x.want || (e != api.OK && got != nil) {
			t.Error(x, got, e)
		}
	}
}

func TestP19_1_LabelsWrong(t *testing.T) {
	for _, set := range wrongSets() {
		if got, e := Labels(api.Rule{Name: "a"}, set); got != nil || e != api.ErrLabel {
			t.Error(set, got, e)
		}
		// The rule's fault goes first, the labels' ahead of their number.
		if got, e := Labels(api.Rule{}, set); got != nil || e != api.ErrRule {
			t.Error(set, got, e)
		}
		if got, e := Labels(api.Rule{Name: "a", Labels: many(16)}, set); got != nil || e != api.ErrLabel {
			t.Error(set, got, e)
		}
	}
	// A metric's name that is at fault is at fault, though it goes.
	if got, e := Labels(api.Rule{Name: "a"}, of("__name__", "\xff")); got != nil || e != api.ErrLabel {
		t.Error(got, e)
	}
	for _, r := range wrongRules() {
		if got, e := Labels(r, of("a", "1")); got != nil || e != api.ErrRule {
			t.Error(r, got, e)
		}
		if got, e := Labels(r, many(16)); got != nil || e != api.ErrRule {
			t.Error(r, got, e)
		}
	}
}

func TestP19_1_Record(t *testing.T) {
	r := api.Rule{Record: true, Name: "job:up"}
	withLabels := api.Rule{Record: true, Name: "job:up", Labels: of("team", "x")}
	for _, x := range []struct {
		rule api.Rule
		in   []api.Point
		want []api.Point
	}{
		{r, nil, nil},
		{r, []api.Point{}, nil},
		{r, []api.Point{point(1)}, []api.Point{point(1, "__name__", "job:up")}},
		{r, []api.Point{point(2, "job", "b"), point(1, "__name__", "other", "job", "a")}, []api.Point{point(1, "__name__", "job:up", "job", "a"), point(2, "__name__", "job:up", "job", "b")}},
		{r, []api.Point{point(1, "alertname", "x")}, []api.Point{point(1, "__name__", "job:up", "alertname", "x")}},
		{withLabels, []api.Point{point(2, "job", "b", "team", "y"), point(1, "Z", "1"), point(3)}, []api.Point{point(1, "Z", "1", "__name__", "job:up", "team", "x"), point(2, "__name__", "job:up", "job", "b", "team", "x"), point(3, "__name__", "job:up", "team", "x")}},
	} {
		got, e := Record(x.rule, x.in)
		if e != api.OK || !samePoints(got, x.want) {
			t.Error(x, got, e)
		}
		model, e := recordModel(x.rule, x.in)
		if e != api.OK || !samePoints(got, model) {
			t.Error(x, got, model, e)
		}
	}
	// Values stay as they are, bit by bit.
	odd := []api.Point{point(math.Float64frombits(0x7ff0000000000002), "a", "1"), point(math.Float64frombits(0xfff8000000000123), "a", "2"), point(math.Inf(-1), "a", "3"), point(math.Copysign(0, -1), "a", "4")}
	got, e := Record(r, odd)
	for i := range odd {
		if e != api.OK || math.Float64bits(got[i].V) != math.Float64bits(odd[i].V) {
			t.Error(got, e)
		}
	}
}

func TestP19_1_RecordWrong(t *testing.T) {
	r := api.Rule{Record: true, Name: "r", Labels: of("z", "1")}
	fine, wrong, full := point(1, "a", "1"), point(1, "a", ""), api.Point{Labels: many(15)}
	for _, x := range []struct {
		rule api.Rule
		in   []api.Point
		want api.Errno
	}{
		{api.Rule{Name: "r"}, []api.Point{fine}, api.ErrRule},
		{api.Rule{Name: "r"}, nil, api.ErrRule},
		{api.Rule{Record: true}, nil, api.ErrRule},
		{api.Rule{Record: true, Name: "r", For: 1}, nil, api.ErrRule},
		{api.Rule{Record: true, Name: "9"}, []api.Point{wrong}, api.ErrRule},
		{r, []api.Point{wrong}, api.ErrLabel},
		{r, []api.Point{full}, api.ErrFull},
		{r, []api.Point{fine, wrong, full}, api.ErrLabel},
		{r, []api.Point{fine, full, wrong}, api.ErrFull},
		{r, []api.Point{fine, fine}, api.ErrMany},
		{r, []api.Point{fine, point(2, "a", "1", "z", "2")}, api.ErrMany},
		{r, []api.Point{fine, point(2, "__name__", "x", "a", "1")}, api.ErrMany},
		{r, []api.Point{point(1, "__name__", "x"), point(2, "__name__", "y")}, api.ErrMany},
		{r, []api.Point{fine, fine, wrong}, api.ErrLabel},
		{r, []api.Point{fine, fine, full}, api.ErrFull},
		{r, []api.Point{fine, {Labels: many(14)}}, api.OK},
		{api.Rule{Record: true, Name: "r"}, []api.Point{{Labels: many(16)}}, api.ErrFull},
		{api.Rule{Record: true, Name: "r"}, []api.Point{{Labels: append(of("__name__", "m"), many(15)...)}}, api.OK},
	} {
		got, e := Record(x.rule, x.in)
		if e != x.want || e != api.OK && got != nil {
			t.Error(x, got, e)
		}
		if _, model := recordModel(x.rule, x.in); model != e {
			t.Error(x, e, model)
		}
	}
	for _, set := range wrongSets() {
		if got, e := Record(r, []api.Point{fine, {Labels: set}}); got != nil || e != api.ErrLabel {
			t.Error(set, got, e)
		}
	}
}

func TestP19_1_Next(t *testing.T) {
	for _, x := range []struct {
		loaded, every, now int64
		want               int64
		e                  api.Errno
	}{
		{100, 30, 100, 130, api.OK},
		{100, 30, 50, 100, api.OK},
		{100, 30, 159, 160, api.OK},
		{100, 30, 160, 190, api.OK},
		{100, 30, 99, 100, api.OK},
		{100, 30, 0, 100, api.OK},
		{100, 30, 129, 130, api.OK},
		{100, 30, 130, 160, api.OK},
		{0, 1, 0, 1, api.OK},
		{0, 1, maxTime, maxTime + 1, api.OK},
		{maxTime, 1, maxTime, maxTime + 1, api.OK},
		{maxTime, maxSpan, maxTime, maxTime + maxSpan, api.OK},
		{maxTime, maxSpan, maxTime - 1, maxTime, api.OK},
		{maxTime, 1, 0, maxTime, api.OK},
		{0, maxSpan, maxTime, maxTime + maxSpan, api.OK},
		{1, maxSpan, maxTime, maxTime + 1, api.OK},
		{0, maxSpan, 0, maxSpan, api.OK},
		{-1, 1, 0, 0, api.ErrArg},
		{maxTime + 1, 1, 0, 0, api.ErrArg},
		{0, 1, -1, 0, api.ErrArg},
		{0, 1, maxTime + 1, 0, api.ErrArg},
		{0, 0, 0, 0, api.ErrArg},
		{0, -1, 0, 0, api.ErrArg},
		{0, maxSpan + 1, 0, 0, api.ErrArg},
		{math.MinInt64, math.MinInt64, math.MinInt64, 0, api.ErrArg},
		{math.MaxInt64, math.MaxInt64, math.MaxInt64, 0, api.ErrArg},
		{5, 0, 1, 0, api.ErrArg},
	} {
		if got, e := Next(x.loaded, x.every, x.now); got != x.want || e != x.e {
			t.Error(x, got, e)
		}
	}
	for loaded := range int64(7) {
		for every := int64(1); every < 7; every++ {
			for now := range int64(40) {
				want := loaded
				for want <= now {
					want += every
				}
				if got, e := Next(loaded, every, now); got != want || e != api.OK {
					t.Error(loaded, every, now, got, e)
				}
			}
		}
	}
}

// TestP19_9_Record: the order of points is of no matter.
func TestP19_9_Record(t *testing.T) {
	s := newSource(191)
	r := api.Rule{Record: true, Name: "r:r", Labels: of("severity", "x")}
	for range 2000 {
		v := s.points(8)
		before := copyPoints(v)
		got, e := Record(r, v)
		want, model := recordModel(r, v)
		if e != model || !samePoints(got, want) || !samePoints(v, before) {
			t.Fatal(v, got, e, want, model)
		}
		s.Shuffle(len(v), func(i, j int) { v[i], v[j] = v[j], v[i] })
		if again, f := Record(r, v); f != e || !samePoints(again, got) {
			t.Fatal(v, again, f)
		}
	}
}

func TestRules_Memory(t *testing.T) {
	r := api.Rule{Record: true, Name: "r", Labels: append(make([]api.Label, 0, 9), of("x", "1")...)}
	a := api.Rule{Name: "A", Labels: append(make([]api.Label, 0, 9), of("x", "1")...)}
	l := append(make([]api.Label, 0, 9), of("a", "1")...)
	v := []api.Point{{Labels: l, V: 1}, point(2, "b", "1")}
	for range 2 {
		set, _ := Labels(a, l)
		if !slices.Equal(set, of("a", "1", "alertname", "A", "x", "1")) {
			t.Fatal(set)
		}
		points, _ := Record(r, v)
		if !samePoints(points, []api.Point{point(1, "__name__", "r", "a", "1", "x", "1"), point(2, "__name__", "r", "b", "1", "x", "1")}) {
			t.Fatal(points)
		}
		_ = append(set, api.Label{Name: "!"})
		for i := range set {
			set[i] = api.Label{Name: "!"}
		}
		for _, p := range points {
			_ = append(p.Labels, api.Label{Name: "!"})
			for i := range p.Labels {
				p.Labels[i] = api.Label{Name: "!"}
			}
		}
		if full := r.Labels[:9]; !slices.Equal(full[:1], of("x", "1")) || full[1] != (api.Label{}) {
			t.Error("changed", full)
		}
		if full := a.Labels[:9]; !slices.Equal(full[:1], of("x", "1")) || full[1] != (api.Label{}) {
			t.Error("changed", full)
		}
		if full := l[:9]; !slices.Equal(full[:1], of("a", "1")) || full[1] != (api.Label{}) {
			t.Error("changed", full)
		}
	}
}
