package aggr

import (
	"fmt"
	"math/rand"
	"slices"
	"strings"
	"testing"

	"tocsin/api"
	"tocsin/labels"
)

// numbered answers n points of the label name, falling by label set.
func numbered(n int, name string) []api.Point {
	var l []api.Point
	for i := range n {
		l = append(l, api.Point{Labels: of(name, fmt.Sprintf("%05d", n-i)), V: float64(i)})
	}
	return l
}

// many answers n labels, rising.
func many(n int) []api.Label {
	var l []api.Label
	for i := range n {
		l = append(l, api.Label{Name: fmt.Sprintf("l%03d", i), Value: "v"})
	}
	return l
}

// shop is the points of the chapter's first example.
func shop() []api.Point { return pts(`{a="1",b="x"} 2`, `{a="1",b="y"} 4`, `{a="2"} 5`) }

var wrongNames = []string{"", "1", "a:b", "é", "a b", "\xff", strings.Repeat("n", 65)}

func TestExamples(t *testing.T) {
	l := shop()
	by := []string{"a"}
	for _, x := range []struct {
		word    string
		names   []string
		without bool
		param   float64
		want    []api.Point
	}{
		{"sum", by, false, 0, pts(`{a="1"} 6`, `{a="2"} 5`)},
		{"sum", by, true, 0, pts(`{} 5`, `{b="x"} 2`, `{b="y"} 4`)},
		{"topk", by, false, 1, pts(`{a="1",b="y"} 4`, `{a="2"} 5`)},
		{"quantile", nil, false, 0.5, pts(`{} 4`)},
		{"stdvar", by, false, 0, pts(`{a="1"} 1`, `{a="2"} 0`)},
		{"topk", by, false, 1.9, pts(`{a="1",b="y"} 4`, `{a="2"} 5`)},
	} {
		got, e := Number(x.word, l, x.names, x.without, x.param)
		check(t, x.word, got, e, x.want, api.OK)
	}
	got, e := Values(l, nil, false, "v")
	check(t, "count_values", got, e, pts(`{v="2"} 1`, `{v="4"} 1`, `{v="5"} 1`), api.OK)
	got, e = Number("sum", nil, nil, false, 0)
	check(t, "sum of none", got, e, nil, api.OK)
	if v, e := Fold("sum", nil, 0); v != 0 || e != api.ErrNone {
		t.Error(v, e)
	}
}

func TestP16_1_Words(t *testing.T) {
	got := Words()
	if !slices.Equal(got, words) {
		t.Error(got)
	}
	_ = append(got, "x")
	for i := range got {
		got[i] = "!"
	}
	if again := Words(); !slices.Equal(again, words) {
		t.Error("not new memory", again)
	}
}

func TestP16_1_Group(t *testing.T) {
	set := of("__name__", "m", "a", "1", "b", "2", "c", "3")
	for _, x := range []struct {
		names   []string
		without bool
		want    []api.Label
	}{
		{nil, false, nil}, {[]string{}, false, nil}, {nil, true, of("a", "1", "b", "2", "c", "3")}, {[]string{"a"}, false, of("a", "1")}, {[]string{"a"}, true, of("b", "2", "c", "3")},
		{[]string{"c", "a"}, false, of("a", "1", "c", "3")}, {[]string{"c", "a"}, true, of("b", "2")}, {[]string{"a", "a", "b", "a"}, false, of("a", "1", "b", "2")}, {[]string{"a", "b", "a"}, true, of("c", "3")},
		{[]string{"x"}, false, nil}, {[]string{"x"}, true, of("a", "1", "b", "2", "c", "3")}, {[]string{"__name__"}, false, of("__name__", "m")}, {[]string{"__name__", "b"}, false, of("__name__", "m", "b", "2")}, {[]string{"__name__", "b"}, true, of("a", "1", "c", "3")},
		{[]string{strings.Repeat("n", 64), "a", "b", "c"}, true, nil}, {[]string{"c", "b", "a", "__name__"}, false, set},
	} {
		if got, e := Group(set, x.names, x.without); e != api.OK || !slices.Equal(got, x.want) {
			t.Error(x, got, e)
		}
		for _, none := range [][]api.Label{nil, {}} {
			if got, e := Group(none, x.names, x.without); e != api.OK || len(got) != 0 {
				t.Error(x, got, e)
			}
		}
	}
	for _, name := range wrongNames {
		for _, without := range []bool{false, true} {
			for _, names := range [][]string{{name}, {"a", name}, {name, "a"}} {
				if got, e := Group(set, names, without); got != nil || e != api.ErrName {
					t.Error(names, got, e)
				}
				// The labels' fault goes first.
				if got, e := Group(of("a", ""), names, without); got != nil || e != api.ErrLabel {
					t.Error(names, got, e)
				}
			}
		}
	}
	for _, set := range [][]api.Label{many(17), of("1", "a"), of("a", ""), of("a", strings.Repeat("v", 257)), of("a", "\xff"), of("b", "1", "a", "1"), of("a", "1", "a", "1"), of("a", "1", "b", "")} {
		want, _ := labels.Right(set)
		if got, e := Group(set, []string{"a"}, false); want == api.OK || got != nil || e != want {
			t.Error(set, got, e)
		}
	}
}

func TestP16_1_Groups(t *testing.T) {
	l := pts(`m{b="x"} 4`, `m{a="2"} 3`, `n{a="1",b="y"} 2`, `m{a="1",b="x"} 1`, `{a="1"} 5`)
	for _, x := range []struct {
		names   []string
		without bool
		want    [][]api.Point
	}{
		{nil, false, [][]api.Point{rising(l)}},
		{[]string{"a"}, false, [][]api.Point{pts(`m{b="x"} 4`), pts(`m{a="1",b="x"} 1`, `n{a="1",b="y"} 2`, `{a="1"} 5`), pts(`m{a="2"} 3`)}},
		{[]string{"a"}, true, [][]api.Point{pts(`m{a="2"} 3`, `{a="1"} 5`), pts(`m{a="1",b="x"} 1`, `m{b="x"} 4`), pts(`n{a="1",b="y"} 2`)}},
		{[]string{"__name__"}, false, [][]api.Point{pts(`{a="1"} 5`), pts(`m{a="1",b="x"} 1`, `m{a="2"} 3`, `m{b="x"} 4`), pts(`n{a="1",b="y"} 2`)}},
		{nil, true, [][]api.Point{pts(`{a="1"} 5`), pts(`m{a="1",b="x"} 1`), pts(`n{a="1",b="y"} 2`), pts(`m{a="2"} 3`), pts(`m{b="x"} 4`)}},
		{[]string{"a", "b", "__name__"}, false, [][]api.Point{pts(`m{a="1",b="x"} 1`), pts(`m{a="2"} 3`), pts(`m{b="x"} 4`), pts(`n{a="1",b="y"} 2`), pts(`{a="1"} 5`)}},
		{[]string{"a", "b"}, true, [][]api.Point{rising(l)}},
	} {
		if got, e := Groups(l, x.names, x.without); e != api.OK || !sameLists(got, x.want) {
			t.Error(x.names, x.without, got, e)
		}
		checkGroups(t, l, x.names, x.without)
		for _, none := range [][]api.Point{nil, {}} {
			if got, e := Groups(none, x.names, x.without); e != api.OK || len(got) != 0 {
				t.Error("of none", got, e)
			}
		}
	}
	// Values stay as they came.
	odd := []api.Point{{Labels: of("a", "1"), V: stale}, {Labels: of("b", "1"), V: otherNaN}, {V: minusZero}}
	if got, e := Groups(odd, nil, false); e != api.OK || !sameLists(got, [][]api.Point{{odd[2], odd[0], odd[1]}}) {
		t.Error(got, e)
	}
	// As many groups as points may be.
	if got, e := Groups(numbered(1000, "a"), []string{"a"}, false); e != api.OK || len(got) != 1000 || got[0][0].V != 999 {
		t.Error(len(got), e)
	}
}

// faults are vectors that are none.
func faults() map[api.Errno][]api.Point {
	return map[api.Errno][]api.Point{
		api.ErrLarge: append(numbered(1000, "a"), api.Point{Labels: of("a", "")}),
		api.ErrLabel: {{Labels: of("a", "1")}, {Labels: of("a", "")}, {Labels: of("a", "1")}},
		api.ErrMany:  pts(`{a="1"} 1`, `{} 1`, `{a="1"} 1`),
	}
}

func TestP16_3_Faults(t *testing.T) {
	for want, l := range faults() {
		for _, names := range [][]string{nil, {"a"}, {""}, {"a", "1"}} {
			for _, without := range []bool{false, true} {
				if got, e := Groups(l, names, without); got != nil || e != want {
					t.Error("Groups", got, e)
				}
				for _, word := range words {
					got, e := Number(word, l, names, without, 1)
					check(t, word, got, e, nil, want)
				}
				for _, word := range noWords {
					got, e := Number(word, l, names, without, 1)
					check(t, word, got, e, nil, api.ErrOp)
				}
				got, e := Values(l, names, without, "v")
				check(t, "Values", got, e, nil, want)
				for _, name := range wrongNames {
					got, e := Values(l, names, without, name)
					check(t, "Values", got, e, nil, api.ErrName)
				}
			}
		}
	}
	for _, l := range [][]api.Point{nil, {}, shop(), {{Labels: many(16), V: 1}}} {
		for _, name := range wrongNames {
			for _, without := range []bool{false, true} {
				for _, names := range [][]string{{name}, {"a", name}} {
					if got, e := Groups(l, names, without); got != nil || e != api.ErrName {
						t.Error("Groups", got, e)
					}
					for _, word := range words {
						got, e := Number(word, l, names, without, 1)
						check(t, word, got, e, nil, api.ErrName)
					}
					got, e := Values(l, names, without, "v")
					check(t, "Values", got, e, nil, api.ErrName)
				}
				got, e := Values(l, nil, without, name)
				check(t, "Values", got, e, nil, api.ErrName)
			}
		}
		for _, word := range noWords {
			got, e := Number(word, l, nil, false, 1)
			check(t, word, got, e, nil, api.ErrOp)
		}
		for _, word := range words {
			checkNumber(t, word, l, nil, false, 1)
		}
	}
	for _, word := range words {
		for _, without := range []bool{false, true} {
			for _, l := range [][]api.Point{nil, {}} {
				got, e := Number(word, l, []string{"a"}, without, 1)
				check(t, word+" of none", got, e, nil, api.OK)
				got, e = Values(l, []string{"a"}, without, "a")
				check(t, "Values of none", got, e, nil, api.OK)
			}
		}
	}
}

func TestP16_3_Number(t *testing.T) {
	l := pts(`m{a="1",b="z"} 3`, `m{a="1",b="x"} 1`, `n{a="1",b="y"} 2`, `m{a="2"} NaN`, `m{b="x"} -0`, `n{b="x"} 0`)
	for _, x := range []struct {
		word  string
		param float64
		want  []api.Point // by (a)
	}{
		{"sum", 0, pts(`{} 0`, `{a="1"} 6`, `{a="2"} NaN`)}, {"avg", 0, pts(`{} 0`, `{a="1"} 2`, `{a="2"} NaN`)}, {"min", 0, pts(`{} -0`, `{a="1"} 1`, `{a="2"} NaN`)}, {"max", 0, pts(`{} -0`, `{a="1"} 3`, `{a="2"} NaN`)},
		{"count", 0, pts(`{} 2`, `{a="1"} 3`, `{a="2"} 1`)}, {"group", 0, pts(`{} 1`, `{a="1"} 1`, `{a="2"} 1`)}, {"stdvar", 0, pts(`{} 0`, `{a="1"} 0.6666666666666666`, `{a="2"} NaN`)}, {"stddev", 0, pts(`{} 0`, `{a="1"} 0.816496580927726`, `{a="2"} NaN`)},
		{"quantile", 0.25, pts(`{} 0`, `{a="1"} 1.5`, `{a="2"} NaN`)}, {"quantile", -1, pts(`{} -Inf`, `{a="1"} -Inf`, `{a="2"} -Inf`)}, {"quantile", 2, pts(`{} +Inf`, `{a="1"} +Inf`, `{a="2"} +Inf`)}, {"quantile", nan, pts(`{} NaN`, `{a="1"} NaN`, `{a="2"} NaN`)},
		{"topk", 1, pts(`m{a="1",b="z"} 3`, `m{a="2"} NaN`, `m{b="x"} -0`)}, {"bottomk", 1, pts(`m{a="1",b="x"} 1`, `m{a="2"} NaN`, `m{b="x"} -0`)}, {"topk", 2, pts(`m{a="1",b="z"} 3`, `m{a="2"} NaN`, `m{b="x"} -0`, `n{a="1",b="y"} 2`, `n{b="x"} 0`)},
	} {
		got, e := Number(x.word, l, []string{"a"}, false, x.param)
		check(t, x.word, got, e, x.want, api.OK)
		checkNumber(t, x.word, l, []string{"a"}, false, x.param)
	}
	got, e := Number("sum", l, nil, true, 0)
	check(t, "without ()", got, e, pts(`{a="1",b="x"} 1`, `{a="1",b="y"} 2`, `{a="1",b="z"} 3`, `{a="2"} NaN`, `{b="x"} 0`), api.OK)
	// The values stand in the order of their label sets, whatever they are grouped by.
	order := pts(`{a="3"} 1`, `{a="1"} 1e16`, `{a="2"} 1`)
	got, e = Number("sum", order, nil, false, 0)
	check(t, "1e16 first", got, e, pts(`{} 1e16`), api.OK)
	order = pts(`{a="3"} 1e16`, `{a="1"} 1`, `{a="2"} 1`)
	got, e = Number("sum", order, nil, false, 0)
	check(t, "1e16 last", got, e, pts(`{} 10000000000000002`), api.OK)
	full := numbered(1000, "a")
	got, e = Number("sum", full, nil, false, 0)
	check(t, "MaxPoints", got, e, pts(`{} 499500`), api.OK)
	if got, e := Number("avg", full, []string{"a"}, false, 0); e != api.OK || !sameList(got, rising(full)) {
		t.Error("MaxPoints groups", len(got), e)
	}
}

func TestP16_3_Topk(t *testing.T) {
	odd := []api.Point{
		{Labels: of("a", "1"), V: 2}, {Labels: of("a", "2"), V: stale}, {Labels: of("a", "3"), V: minusZero}, {Labels: of("a", "4"), V: inf}, {Labels: of("a", "5"), V: 0}, {Labels: of("a", "6"), V: -inf}, {Labels: of("a", "7"), V: otherNaN}, {Labels: of("a", "8"), V: 2}, {V: -1},
	}
	top, bottom := []int{3, 0, 7, 2, 4, 8, 5, 1, 6}, []int{5, 8, 2, 4, 0, 7, 3, 1, 6}
	for _, x := range []struct {
		k float64
		n int
	}{
		{0, 0}, {minusZero, 0}, {0.9999999999999999, 0}, {-1, 0}, {-inf, 0}, {nan, 0}, {stale, 0}, {1, 1}, {1.9999999999999998, 1}, {1.5, 1}, {2, 2}, {2.5, 2}, {3, 3}, {4, 4}, {5, 5}, {6, 6}, {7, 7}, {7.99, 7}, {8, 8}, {8.9, 8}, {9, 9}, {9.5, 9}, {10, 9}, {1000, 9}, {1e300, 9}, {1 << 63, 9}, {1 << 62, 9}, {inf, 9},
	} {
		for word, order := range map[string][]int{"topk": top, "bottomk": bottom} {
			var want []api.Point
			for _, i := range order[:x.n] {
				want = append(want, odd[i])
			}
			shuffled := clone(odd)
			slices.Reverse(shuffled)
			got, e := Number(word, shuffled, nil, false, x.k)
			check(t, fmt.Sprint(word, x.k), got, e, rising(want), api.OK)
			checkNumber(t, word, odd, nil, false, x.k)
		}
	}
	// The points keep all of their labels, their names too.
	l := pts(`m{a="1",b="x"} 1`, `n{a="1",b="x"} 2`, `m{a="2"} 3`)
	for _, without := range []bool{false, true} {
		for _, names := range [][]string{nil, {"a"}, {"b", "zz"}} {
			got, e := Number("topk", l, names, without, 3)
			check(t, "topk", got, e, rising(l), api.OK)
		}
	}
	got, e := Number("bottomk", l, []string{"a"}, true, 1)
	check(t, "bottomk", got, e, pts(`m{a="1",b="x"} 1`, `m{a="2"} 3`), api.OK)
	// Of one value the lesser label set.
	same := pts(`{a="3"} 1`, `{a="1"} 1`, `{a="2"} 1`, `{a="4"} 1`)
	for _, word := range []string{"topk", "bottomk"} {
		got, e := Number(word, same, nil, false, 2)
		check(t, word, got, e, pts(`{a="1"} 1`, `{a="2"} 1`), api.OK)
	}
}

func TestP16_3_Values(t *testing.T) {
	l := []api.Point{
		{Labels: of("__name__", "m", "a", "1", "b", "x"), V: 1}, {Labels: of("a", "1", "b", "y"), V: 1}, {Labels: of("a", "1", "b", "z"), V: 0}, {Labels: of("a", "2", "b", "u"), V: minusZero}, {Labels: of("a", "2", "b", "v"), V: 0}, {Labels: of("a", "2", "b", "w"), V: stale}, {Labels: of("a", "2", "b", "x"), V: otherNaN}, {Labels: of("a", "2", "b", "y"), V: nan}, {Labels: of("b", "q"), V: 1e21}, {Labels: of("b", "r"), V: -inf}, {Labels: of("b", "s"), V: 0.1},
	}
	for _, x := range []struct {
		names   []string
		without bool
		name    string
		want    []api.Point
	}{
		{nil, false, "v", pts(`{v="-0"} 1`, `{v="-Inf"} 1`, `{v="0"} 2`, `{v="0.1"} 1`, `{v="1"} 2`, `{v="1e+21"} 1`, `{v="NaN"} 3`)},
		{[]string{"a"}, false, "v", pts(`{a="1",v="0"} 1`, `{a="1",v="1"} 2`, `{a="2",v="-0"} 1`, `{a="2",v="0"} 1`, `{a="2",v="NaN"} 3`, `{v="-Inf"} 1`, `{v="0.1"} 1`, `{v="1e+21"} 1`)},
		// The label takes the place of the group's: groups come to one label set, and are counted together.
		{[]string{"a"}, false, "a", pts(`{a="-0"} 1`, `{a="-Inf"} 1`, `{a="0"} 2`, `{a="0.1"} 1`, `{a="1"} 2`, `{a="1e+21"} 1`, `{a="NaN"} 3`)},
		{[]string{"b"}, true, "a", pts(`{a="-0"} 1`, `{a="-Inf"} 1`, `{a="0"} 2`, `{a="0.1"} 1`, `{a="1"} 2`, `{a="1e+21"} 1`, `{a="NaN"} 3`)},
		{[]string{"b"}, true, "__name__", []api.Point{{Labels: of("__name__", "-Inf"), V: 1}, {Labels: of("__name__", "0", "a", "1"), V: 1}, {Labels: of("__name__", "0", "a", "2"), V: 1}, {Labels: of("__name__", "-0", "a", "2"), V: 1}, {Labels: of("__name__", "0.1"), V: 1}, {Labels: of("__name__", "1", "a", "1"), V: 2}, {Labels: of("__name__", "1e+21"), V: 1}, {Labels: of("__name__", "NaN", "a", "2"), V: 3}}},
		{[]string{"a", "b"}, true, "v", pts(`{v="-0"} 1`, `{v="-Inf"} 1`, `{v="0"} 2`, `{v="0.1"} 1`, `{v="1"} 2`, `{v="1e+21"} 1`, `{v="NaN"} 3`)},
	} {
		got, e := Values(l, x.names, x.without, x.name)
		check(t, fmt.Sprint(x.names, x.without, x.name), got, e, rising(x.want), api.OK)
		checkValues(t, l, x.names, x.without, x.name)
	}
	alike := numbered(1000, "a")
	for i := range alike {
		alike[i].V = 7
	}
	got, e := Values(alike, nil, false, "v")
	check(t, "MaxPoints", got, e, pts(`{v="7"} 1000`), api.OK)
	if got, e := Values(numbered(1000, "a"), []string{"a"}, false, "v"); e != api.OK || len(got) != 1000 {
		t.Error("MaxPoints groups", len(got), e)
	}
	// Names and texts at their bounds.
	long := strings.Repeat("n", 64)
	got, e = Values([]api.Point{{V: 5e-324}}, nil, false, long)
	check(t, "a long name", got, e, []api.Point{{Labels: of(long, "5e-324"), V: 1}}, api.OK)
}

func TestP16_3_ValuesFull(t *testing.T) {
	names := func(n int) []string {
		var l []string
		for _, one := range many(n) {
			l = append(l, one.Name)
		}
		return l
	}
	full := []api.Point{{Labels: many(16), V: 1}}
	for _, x := range []struct {
		l       []api.Point
		names   []string
		without bool
		name    string
		want    api.Errno
	}{
		{full, names(16), false, "v", api.ErrFull}, {full, nil, true, "v", api.ErrFull}, {full, names(15), false, "v", api.OK}, {full, names(1), true, "v", api.OK}, {full, names(16), false, "l003", api.OK}, {full, nil, true, "l015", api.OK}, {full, nil, false, "v", api.OK},
		{[]api.Point{{Labels: many(15), V: 1}}, nil, true, "v", api.OK},
		{append(pts(`{a="1"} 1`), full...), nil, true, "v", api.ErrFull}, {append(slices.Clone(full), pts(`{z="1"} 1`)...), nil, true, "v", api.ErrFull},
		{[]api.Point{{Labels: append(of("__name__", "m"), many(15)...), V: 1}}, nil, true, "v", api.OK},
		{[]api.Point{{Labels: append(of("__name__", "m"), many(15)...), V: 1}}, append(names(15), "__name__"), false, "v", api.ErrFull},
	} {
		got, e := Values(x.l, x.names, x.without, x.name)
		if e != x.want || e != api.OK && got != nil {
			t.Error(x.names, x.without, x.name, show(got), e)
		}
		checkValues(t, x.l, x.names, x.without, x.name)
	}
}

func TestP16_3_AnyVectors(t *testing.T) {
	r := rand.New(rand.NewSource(3))
	counts := map[api.Errno]int{}
	for range 12000 {
		l, names, without := somePoints(r), someNames(r), r.Intn(2) == 0
		word := words[r.Intn(len(words))]
		if r.Intn(40) == 0 {
			word = noWords[r.Intn(len(noWords))]
		}
		param := someParam(r)
		checkGroups(t, l, names, without)
		checkNumber(t, word, l, names, without, param)
		checkValues(t, l, names, without, []string{"v", "a", "b", "__name__", "", "a:b"}[r.Intn(6)])
		_, e := Number(word, l, names, without, param)
		counts[e]++
	}
	for _, e := range []api.Errno{api.OK, api.ErrOp, api.ErrName, api.ErrLabel, api.ErrMany} {
		if counts[e] < 50 {
			t.Error("few of", e, counts)
		}
	}
}

func TestP16_4_GroupsPart(t *testing.T) {
	r := rand.New(rand.NewSource(4))
	for range 3000 {
		l, names, without := somePoints(r), someNames(r), r.Intn(2) == 0
		groups, e := Groups(l, names, without)
		if e != api.OK {
			continue
		}
		var all []api.Point
		var last []api.Label
		for i, g := range groups {
			set, e := Group(g[0].Labels, names, without)
			if e != api.OK || i > 0 && labels.Compare(last, set) >= 0 {
				t.Fatal("the groups do not rise", last, set)
			}
			last = set
			for j, p := range g {
				own, _ := Group(p.Labels, names, without)
				if !slices.Equal(own, set) || j > 0 && labels.Compare(g[j-1].Labels, p.Labels) >= 0 {
					t.Fatal("not of its group", p, set)
				}
			}
			all = append(all, g...)
		}
		if !sameList(rising(all), rising(l)) {
			t.Fatal(show(l), groups)
		}
	}
}

func TestP16_5_AnyOrder(t *testing.T) {
	r := rand.New(rand.NewSource(5))
	for range 4000 {
		l, names, without := somePoints(r), someNames(r), r.Intn(2) == 0
		word, param := words[r.Intn(len(words))], someParam(r)
		groups, e := Groups(l, names, without)
		numbers, e1 := Number(word, l, names, without, param)
		values, e2 := Values(l, names, without, "v")
		for range 3 {
			other, more := clone(l), append(slices.Clone(names), names...)
			r.Shuffle(len(other), func(i, j int) { other[i], other[j] = other[j], other[i] })
			r.Shuffle(len(more), func(i, j int) { more[i], more[j] = more[j], more[i] })
			if got, ge := Groups(other, more, without); ge != e || !sameLists(got, groups) {
				t.Fatal(show(l), got, ge, groups, e)
			}
			got, ge := Number(word, other, more, without, param)
			check(t, word, got, ge, numbers, e1)
			got, ge = Values(other, more, without, "v")
			check(t, "Values", got, ge, values, e2)
		}
	}
}

// above: does a stand ahead of b for topk?
func above(a, b float64) bool { return a > b || a == a && b != b }

func TestP16_7_Topk(t *testing.T) {
	r := rand.New(rand.NewSource(7))
	for range 4000 {
		l, names, without := somePoints(r), someNames(r), r.Intn(2) == 0
		groups, e := Groups(l, names, without)
		if e != api.OK {
			continue
		}
		k := r.Intn(5)
		got, e := Number("topk", l, names, without, float64(k))
		if e != api.OK {
			t.Fatal(e)
		}
		found := 0
		for _, g := range groups {
			var there, left []api.Point
			for _, p := range g {
				if slices.ContainsFunc(got, func(q api.Point) bool { return sameList([]api.Point{p}, []api.Point{q}) }) {
					there = append(there, p)
				} else {
					left = append(left, p)
				}
			}
			if len(there) != min(k, len(g)) {
				t.Fatal("not k of a group", k, show(there), "of", show(g))
			}
			for _, p := range left {
				for _, q := range there {
					if above(p.V, q.V) {
						t.Fatal("left out, though above", show(there), show(left))
					}
				}
			}
			found += len(there)
		}
		if found != len(got) {
			t.Fatal("points that l has not", show(got), show(l))
		}
		for _, word := range []string{"topk", "bottomk"} {
			for _, k := range []float64{float64(len(l)), float64(len(l)) + 0.5, 2000, inf} {
				want := rising(l)
				if k < 1 {
					want = nil
				}
				got, e := Number(word, l, names, without, k)
				check(t, word, got, e, want, api.OK)
			}
		}
	}
}

func TestP16_8_Counts(t *testing.T) {
	r := rand.New(rand.NewSource(8))
	for range 4000 {
		l, names, without := somePoints(r), someNames(r), r.Intn(2) == 0
		values, e := Values(l, names, without, "v")
		counts, e2 := Number("count", l, names, without, 0)
		if e != e2 {
			t.Fatal(e, e2)
		}
		var sums []api.Point
		for _, p := range values {
			set, _ := labels.Without(p.Labels, "v")
			at := slices.IndexFunc(sums, func(q api.Point) bool { return slices.Equal(q.Labels, set) })
			if at < 0 {
				at = len(sums)
				sums = append(sums, api.Point{Labels: set})
			}
			sums[at].V += p.V
		}
		if !sameList(rising(sums), counts) {
			t.Fatal(show(l), show(values), show(counts))
		}
	}
}

// No list that is handed in is changed or kept, and what is answered is new memory.
func TestRules_Memory(t *testing.T) {
	l := pts(`{c="1"} 3`, `m{a="2",b="1"} 2`, `{a="1"} 1`, `m{a="2"} 5`)
	for i, call := range []func(l []api.Point, names []string) ([][]api.Point, api.Errno){
		func(l []api.Point, names []string) ([][]api.Point, api.Errno) { return Groups(l, names, false) },
		func(l []api.Point, names []string) ([][]api.Point, api.Errno) { return Groups(l, names, true) },
		func(l []api.Point, names []string) ([][]api.Point, api.Errno) {
			got, e := Number("sum", l, names, false, 0)
			return [][]api.Point{got}, e
		},
		func(l []api.Point, names []string) ([][]api.Point, api.Errno) {
			got, e := Number("quantile", l, names, true, 0.5)
			return [][]api.Point{got}, e
		},
		func(l []api.Point, names []string) ([][]api.Point, api.Errno) {
			got, e := Number("topk", l, names, true, 5)
			return [][]api.Point{got}, e
		},
		func(l []api.Point, names []string) ([][]api.Point, api.Errno) {
			got, e := Number("bottomk", l, names, false, 1)
			return [][]api.Point{got}, e
		},
		func(l []api.Point, names []string) ([][]api.Point, api.Errno) {
			got, e := Values(l, names, true, "v")
			return [][]api.Point{got}, e
		},
		func(l []api.Point, names []string) ([][]api.Point, api.Errno) {
			got, e := Group(l[1].Labels, names, false)
			return [][]api.Point{{{Labels: got}}}, e
		},
		func(l []api.Point, names []string) ([][]api.Point, api.Errno) {
			got, e := Group(l[1].Labels, names, true)
			return [][]api.Point{{{Labels: got}}}, e
		},
		// Refused ones.
		func(l []api.Point, names []string) ([][]api.Point, api.Errno) {
			return Groups(append(l, l...), names, true)
		},
		func(l []api.Point, names []string) ([][]api.Point, api.Errno) {
			got, e := Number("topk", l, append(names, ""), false, 1)
			return [][]api.Point{got}, e
		},
	} {
		names := []string{"b", "a", "b"}
		x, y := append(make([]api.Point, 0, 9), clone(l)...), append(make([]string, 0, 9), names...)
		for j := range x {
			x[j].Labels = append(make([]api.Label, 0, 9), x[j].Labels...)
		}
		got, e := call(x, y)
		want := cloneAll(got)
		if !sameList(x, l) || !slices.Equal(y, names) || y[:9][3] != "" || x[0].Labels[:9][1] != (api.Label{}) || len(x[:9][4].Labels) > 0 && i != 9 {
			t.Error(i, "a list is changed")
		}
		spoil(x)
		clear(y)
		if !sameLists(got, want) {
			t.Error(i, "shares memory with what was handed in")
		}
		// Lists of one answer share none.
		for j := range got {
			spoil(got[j])
			if !sameLists(got[j+1:], want[j+1:]) {
				t.Error(i, "two lists share memory")
			}
		}
		again, e2 := call(clone(l), names)
		if !sameLists(again, want) || e != e2 {
			t.Error(i, "another answer", again, e2)
		}
	}
	// Labels of one answer share none.
	got, _ := Number("topk", l, nil, false, 9)
	for i := range got {
		for j := range got[i].Labels {
			got[i].Labels[j].Name = "!"
		}
		_ = append(got[i].Labels, api.Label{Name: "!"})
		if !sameList(got[i+1:], rising(l)[i+1:]) {
			t.Error("two label sets share memory")
		}
	}
	v := []float64{3, nan, 1, 2}
	before := slices.Clone(v)
	for _, word := range foldWords {
		Fold(word, v, 0.5)
		if !slices.EqualFunc(v, before, same) {
			t.Error(word, "changes the values")
		}
	}
}

func FuzzAggr(f *testing.F) {
	f.Add(int64(1), "sum", 0.0, "v", true)
	f.Add(int64(2), "quantile", 0.5, "a", false)
	f.Add(int64(3), "topk", 1.9, "", true)
	f.Fuzz(func(t *testing.T, seed int64, word string, param float64, name string, without bool) {
		r := rand.New(rand.NewSource(seed))
		l, names := somePoints(r), someNames(r)
		if r.Intn(4) == 0 {
			names = append(names, name)
		}
		checkGroups(t, l, names, without)
		checkNumber(t, word, l, names, without, param)
		for _, word := range words {
			checkNumber(t, word, l, names, without, param)
		}
		checkValues(t, l, names, without, name)
	})
}
