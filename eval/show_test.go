package eval

import (
	"math"
	"slices"
	"strings"
	"testing"

	"tocsin/api"
)

func point(v float64, texts ...string) api.Point { return api.Point{Labels: of(texts...), V: v} }

func TestP18_3_Show(t *testing.T) {
	vector := func(l ...api.Point) api.Value { return api.Value{Kind: api.VVector, Points: l} }
	matrix := func(l ...api.Series) api.Value { return api.Value{Kind: api.VMatrix, Series: l} }
	many := make([]api.Label, 17)
	long := strings.Repeat("x", api.MaxText-2)
	for _, x := range []struct {
		v    api.Value
		want string
		e    api.Errno
	}{
		{api.Value{Kind: api.VScalar, V: 1.5}, "1.5", api.OK}, {api.Value{Kind: api.VScalar, V: minusZero}, "-0", api.OK}, {api.Value{Kind: api.VScalar, V: stale}, "NaN", api.OK}, {api.Value{Kind: api.VScalar, V: -inf, Text: "\xff", Points: []api.Point{point(1, "", "")}}, "-Inf", api.OK}, {api.Value{Kind: api.VScalar}, "0", api.OK},
		{api.Value{Kind: api.VString, Text: "a\"\n\x01é"}, `"a\"\n\x01é"`, api.OK}, {api.Value{Kind: api.VString}, `""`, api.OK}, {api.Value{Kind: api.VString, Text: "\xff"}, "", api.ErrUtf}, {api.Value{Kind: api.VString, Text: long}, `"` + long + `"`, api.OK}, {api.Value{Kind: api.VString, Text: long + "x"}, "", api.ErrSize}, {api.Value{Kind: api.VString, Text: long[1:] + "\n"}, "", api.ErrSize}, {api.Value{Kind: api.VString, Text: long + "x\xff"}, "", api.ErrUtf},
		{vector(), "", api.OK}, {vector(point(1)), "{} 1", api.OK}, {vector(point(1, "__name__", "m", "a", "\"")), `m{a="\""} 1`, api.OK}, {vector(point(1, "__name__", "0", "a", "1")), `{__name__="0",a="1"} 1`, api.OK},
		// As they are handed in: in any order, one twice.
		{vector(point(nan, "b", "1"), point(2, "a", "1"), point(2, "a", "1")), "{b=\"1\"} NaN\n{a=\"1\"} 2\n{a=\"1\"} 2", api.OK},
		{matrix(), "", api.OK}, {matrix(ser("m")), "m", api.OK}, {matrix(ser(`m{a="1"}`, at(5, 1), at(7, inf))), `m{a="1"} 1@5 +Inf@7`, api.OK}, {matrix(ser("m", at(7, 1), at(-5, 2), at(7, 1), at(math.MinInt64, 0), at(math.MaxInt64, -0.5)), ser("{}"), ser("m")), "m 1@7 2@-5 1@7 0@-9223372036854775808 -0.5@9223372036854775807\n{}\nm", api.OK},
		{vector(point(1), point(1, "1", "a")), "", api.ErrName}, {vector(point(1, "a", "")), "", api.ErrLabel}, {vector(point(1, "b", "1", "a", "1")), "", api.ErrForm}, {vector(point(1, "a", "\xff"), point(1, "", "")), "", api.ErrUtf}, {vector(point(1, "a", strings.Repeat("v", 257))), "", api.ErrSize}, {vector(api.Point{Labels: many}), "", api.ErrFull},
		{matrix(ser("m"), api.Series{Labels: of("a", "")}), "", api.ErrLabel}, {matrix(api.Series{Labels: many}), "", api.ErrFull}, {matrix(api.Series{Labels: of("1", "a")}), "", api.ErrName},
		{api.Value{}, "", api.ErrArg}, {api.Value{Kind: 5, V: 1, Text: "a"}, "", api.ErrArg}, {api.Value{Kind: -1}, "", api.ErrArg}, {api.Value{Kind: math.MaxInt, Points: []api.Point{{Labels: many}}}, "", api.ErrArg},
	} {
		before := clone(x.v)
		if got, e := Show(x.v); got != x.want || e != x.e {
			t.Errorf("%.80s: %.80s %d, not %.80s %d", exact(x.v), got, e, x.want, x.e)
		}
		if want, e := modelShow(x.v); want != x.want || e != x.e {
			t.Errorf("the model: %.80s %d, not %.80s %d", want, e, x.want, x.e)
		}
		if exact(x.v) != exact(before) {
			t.Error("the value is changed")
		}
	}
}

func TestP18_3_ShowSize(t *testing.T) {
	// A line of 256 bytes, 255 and its end: 256 of them are MaxText bytes without the last end, which is not there.
	line := func(n int) api.Point { return point(1, "a", strings.Repeat("v", n-len(`{a=""} 1`))) }
	for _, extra := range []int{0, 1, 2} {
		var l []api.Point
		for range 255 {
			l = append(l, line(255))
		}
		v := api.Value{Kind: api.VVector, Points: append(l, line(255+extra))}
		got, e := Show(v)
		want, we := modelShow(v)
		if got != want || e != we || (e == api.OK) != (extra < 2) || e == api.OK && len(got) != 65535+extra {
			t.Error(extra, len(got), e)
		}
		// Faults of labels go ahead, wherever they stand.
		v.Points = append(v.Points, line(255), point(1, "a", ""))
		if got, e := Show(v); got != "" || e != api.ErrLabel {
			t.Error(len(got), e)
		}
		// A matrix, of lines as long, each with its time.
		m := api.Value{Kind: api.VMatrix}
		for _, p := range append(l, line(255+extra)) {
			p.Labels[0].Value = p.Labels[0].Value[2:]
			m.Series = append(m.Series, api.Series{Labels: p.Labels, Samples: []api.Sample{at(5, 1)}})
		}
		got, e = Show(m)
		if want, we := modelShow(m); got != want || e != we || (e == api.OK) != (extra < 2) || e == api.OK && len(got) != 65535+extra {
			t.Error(extra, len(got), e)
		}
	}
	// One line that is too long: 16384 samples of four bytes.
	for _, n := range []int{16383, 16384, 30000} {
		one := api.Series{}
		for range n {
			one.Samples = append(one.Samples, at(1, 1))
		}
		v := api.Value{Kind: api.VMatrix, Series: []api.Series{one}}
		got, e := Show(v)
		if want, we := modelShow(v); got != want || e != we || (e == api.OK) != (n == 16383) {
			t.Error(n, len(got), e)
		}
		v.Series = append(v.Series, api.Series{Labels: of("a", "")})
		if got, e := Show(v); got != "" || e != api.ErrLabel {
			t.Error(n, len(got), e)
		}
		v.Series[1].Labels = nil
		if got, e := Show(v); got != "" || e != api.ErrSize {
			t.Error(n, len(got), e)
		}
	}
}

func TestP18_3_Same(t *testing.T) {
	points := []api.Point{point(1, "a", "1"), point(nan, "b", "1")}
	series := []api.Series{ser(`m{a="1"}`, at(1, 1), at(2, nan)), ser("n", at(1, 1))}
	values := []api.Value{
		{Kind: api.VScalar, V: 1}, {Kind: api.VScalar, V: nan}, {Kind: api.VScalar, V: otherNaN}, {Kind: api.VScalar, V: 0}, {Kind: api.VScalar, V: minusZero}, {Kind: api.VScalar, V: stale},
		{Kind: api.VString, Text: "a"}, {Kind: api.VString, Text: ""}, {Kind: api.VString, Text: "\xff"},
		{Kind: api.VVector, Points: points}, {Kind: api.VVector, Points: points[:1]}, {Kind: api.VVector}, {Kind: api.VVector, Points: []api.Point{points[1], points[0]}}, {Kind: api.VVector, Points: []api.Point{points[0], point(otherNaN, "b", "1")}}, {Kind: api.VVector, Points: []api.Point{points[0], point(nan, "b", "2")}}, {Kind: api.VVector, Points: []api.Point{points[0], point(nan, "c", "1")}}, {Kind: api.VVector, Points: []api.Point{points[0], point(nan, "b", "1", "c", "1")}}, {Kind: api.VVector, Points: []api.Point{points[0], points[1], points[1]}}, {Kind: api.VVector, Points: []api.Point{point(0)}}, {Kind: api.VVector, Points: []api.Point{point(minusZero)}},
		{Kind: api.VMatrix, Series: series}, {Kind: api.VMatrix, Series: series[:1]}, {Kind: api.VMatrix}, {Kind: api.VMatrix, Series: []api.Series{series[1], series[0]}}, {Kind: api.VMatrix, Series: []api.Series{series[0], ser("n", at(2, 1))}}, {Kind: api.VMatrix, Series: []api.Series{series[0], ser("n", at(1, 2))}}, {Kind: api.VMatrix, Series: []api.Series{series[0], ser("o", at(1, 1))}}, {Kind: api.VMatrix, Series: []api.Series{series[0], ser(`n{a="1"}`, at(1, 1))}}, {Kind: api.VMatrix, Series: []api.Series{series[0], ser("n")}}, {Kind: api.VMatrix, Series: []api.Series{series[0], ser("n", at(1, 1), at(2, 1))}}, {Kind: api.VMatrix, Series: []api.Series{ser(`m{a="1"}`, at(1, 1), at(2, otherNaN)), series[1]}},
		{Kind: 0}, {Kind: 5}, {Kind: -1},
	}
	for i, a := range values {
		for j, b := range values {
			if got := Same(a, b); got != (i == j) {
				t.Error(exact(a), exact(b), got)
			}
			if Same(a, clone(b)) != (i == j) {
				t.Error("memory is of matter")
			}
		}
	}
	// What a kind has not is of no matter; none, and an empty list, are alike.
	for kind, x := range map[int][2]api.Value{
		api.VScalar: {{V: 1, Text: "a", Points: points}, {V: 1, Series: series}}, api.VString: {{Text: "a", V: 1}, {Text: "a", V: 2, Points: points}}, api.VVector: {{Points: points, V: 1}, {Points: points, Text: "a", Series: series}}, api.VMatrix: {{Series: series, V: nan}, {Series: series, Points: points}},
		9: {{V: 1, Text: "a", Points: points, Series: series}, {}},
	} {
		a, b := x[0], x[1]
		a.Kind, b.Kind = kind, kind
		if !Same(a, b) || !Same(b, a) {
			t.Error(kind)
		}
	}
	if !Same(api.Value{Kind: api.VVector}, api.Value{Kind: api.VVector, Points: []api.Point{}}) || !Same(api.Value{Kind: api.VMatrix, Series: []api.Series{}}, api.Value{Kind: api.VMatrix}) || !Same(api.Value{Kind: api.VVector, Points: []api.Point{{}}}, api.Value{Kind: api.VVector, Points: []api.Point{{Labels: []api.Label{}}}}) {
		t.Error("an empty list")
	}
}

// No tree that is handed in is changed or kept, no store either, and what is answered is new memory.
func TestRules_Memory(t *testing.T) {
	series := shop()
	s := stored(t, series[:3], cloneSeries(series[3:]))
	const now = 100 * second
	for _, text := range []string{
		"m", "(m)", "m[1m]", "(m[1m])", `m{a="2"}[1m]`, "-m", "m + 1", "1 - m", "m > 1", "m + m", "m and m", "m or n", "m * on (a) group_left () n", "sum by (a) (m)", "topk(2, m)", `count_values("v", m)`, "sort(m)", "abs(m)", "timestamp(m)", "timestamp(-m)", "last_over_time(m[1m])", "rate(m[1m])", `absent(nope{x="1",y="2"})`, `absent_over_time(nope{x="1",y="2"}[1m])`, `label_join(m, "c", "", "a")`, `label_join(m, "c", "")`, "vector(1)", "clamp(m, 0, 1)", `histogram_quantile(0.5, label_join(m, "le", "", "a"))`, `"a"`, "1",
	} {
		x := tree(t, text)
		before := cloneTree(x)
		got, e := Instant(s, x, now, lookback)
		if e != api.OK {
			t.Fatal(text, e)
		}
		want := clone(got)
		if rows, _ := Range(s, x, now-second, now, second, lookback); len(rows) > 0 {
			kept := cloneSeries(rows)
			for i := range rows {
				spoilSeries(rows[i : i+1 : i+1])
				if exactSeries(rows[i+1:]) != exactSeries(kept[i+1:]) {
					t.Error(text, "two rows share memory")
				}
			}
		}
		if exactTree(x) != exactTree(before) {
			t.Error(text, "the tree is changed")
		}
		spoilTree(x)
		if exact(got) != exact(want) {
			t.Error(text, "shares memory with the tree")
		}
		// Lists of one answer share none.
		for i := range got.Points {
			spoil(api.Value{Points: got.Points[i : i+1 : i+1]})
			if exact(api.Value{Points: got.Points[i+1:]}) != exact(api.Value{Points: want.Points[i+1:]}) {
				t.Error(text, "two points share memory")
			}
		}
		for i := range got.Series {
			spoilSeries(got.Series[i : i+1 : i+1])
			if exactSeries(got.Series[i+1:]) != exactSeries(want.Series[i+1:]) {
				t.Error(text, "two series share memory")
			}
		}
		spoil(got)
		if again, e := Instant(s, before, now, lookback); e != api.OK || exact(again) != exact(want) {
			t.Error(text, "another answer", exact(again), exact(want), e)
		}
	}
	// Refused ones change nothing either.
	for _, text := range []string{"m + on () m", `label_join(m, "b", "")`, `label_join(m, "c", "` + strings.Repeat("x", 300) + `", "a", "a")`} {
		if _, e, _ := Query(s, text, now, lookback); e == api.OK {
			t.Error(text)
		}
	}
	if got, e := s.Range(nil, 0, now); e != api.OK || exactSeries(got) != exactSeries(series) {
		t.Error("the store is changed")
	}
}

func cloneTree(t api.Tree) api.Tree {
	out := api.Tree{Nodes: slices.Clone(t.Nodes)}
	for i := range out.Nodes {
		n := &out.Nodes[i]
		n.By, n.Args, n.Matchers = slices.Clone(n.By), slices.Clone(n.Args), slices.Clone(n.Matchers)
		n.Match.Labels, n.Match.Include = slices.Clone(n.Match.Labels), slices.Clone(n.Match.Include)
	}
	return out
}

func spoilTree(t api.Tree) {
	for i := range t.Nodes {
		n := &t.Nodes[i]
		for _, l := range [][]string{n.By, n.Match.Labels, n.Match.Include} {
			for j := range l {
				l[j] = "!"
			}
		}
		clear(n.Args)
		clear(n.Matchers)
		*n = api.Node{}
	}
}
