package aggr

import (
	"math"
	"math/big"
	"math/rand"
	"slices"
	"sort"
	"strconv"
	"strings"
	"testing"

	"tocsin/api"
	"tocsin/expo"
	"tocsin/labels"
)

var (
	stale     = math.Float64frombits(0x7ff0000000000002)
	nan       = math.Float64frombits(0x7ff8000000000001)
	otherNaN  = math.Float64frombits(0xfff8000000000123)
	minusZero = math.Copysign(0, -1)
	inf       = math.Inf(1)
)

// foldWords are those of the table, words those that Number takes.
var (
	foldWords = []string{"avg", "count", "group", "max", "min", "quantile", "stddev", "stdvar", "sum"}
	words     = []string{"avg", "bottomk", "count", "group", "max", "min", "quantile", "stddev", "stdvar", "sum", "topk"}
	noWords   = []string{"", "count_values", "Sum", "sum ", " sum", "su", "summ", "SUM", "median", "by", "\xff", "topk\x00", "rate"}
)

func same(a, b float64) bool { return math.Float64bits(a) == math.Float64bits(b) }

// of: labels of names and values in turn.
func of(texts ...string) []api.Label {
	var l []api.Label
	for i := 0; i+1 < len(texts); i += 2 {
		l = append(l, api.Label{Name: texts[i], Value: texts[i+1]})
	}
	return l
}

// pts answers points of texts: labels as labels.Parse reads them, a blank, a value.
func pts(texts ...string) []api.Point {
	var l []api.Point
	for _, s := range texts {
		at := strings.LastIndex(s, " ")
		set, e, _ := labels.Parse(s[:at])
		v, err := strconv.ParseFloat(s[at+1:], 64)
		if e != api.OK || err != nil {
			panic(s)
		}
		if math.IsNaN(v) {
			v = nan
		}
		l = append(l, api.Point{Labels: set, V: v})
	}
	return l
}

// show answers points as texts, to be told of.
func show(l []api.Point) string {
	var b strings.Builder
	for _, p := range l {
		for _, one := range p.Labels {
			b.WriteString(one.Name + "=" + strconv.Quote(one.Value) + ",")
		}
		b.WriteString(" " + strconv.FormatFloat(p.V, 'g', -1, 64) + " " + strconv.FormatUint(math.Float64bits(p.V), 16) + "; ")
	}
	return b.String()
}

func sameList(a, b []api.Point) bool {
	return slices.EqualFunc(a, b, func(p, q api.Point) bool { return slices.Equal(p.Labels, q.Labels) && same(p.V, q.V) })
}

func sameLists(a, b [][]api.Point) bool { return slices.EqualFunc(a, b, sameList) }

// clone answers the same points as other memory.
func clone(l []api.Point) []api.Point {
	if l == nil {
		return nil
	}
	out := []api.Point{}
	for _, p := range l {
		out = append(out, api.Point{Labels: slices.Clone(p.Labels), V: p.V})
	}
	return out
}

func cloneAll(l [][]api.Point) [][]api.Point {
	var out [][]api.Point
	for _, one := range l {
		out = append(out, clone(one))
	}
	return out
}

// spoil writes into all of l, and appends to it.
func spoil(l []api.Point) {
	for i := range l {
		_ = append(l[i].Labels, api.Label{Name: "!"})
		for j := range l[i].Labels {
			l[i].Labels[j] = api.Label{Name: "!", Value: "!"}
		}
	}
	_ = append(l, api.Point{V: -7})
	for i := range l {
		l[i] = api.Point{V: -77}
	}
}

func modelNaN(v float64) float64 {
	if v != v {
		return nan
	}
	return v
}

// exactly answers a + b or a * b of finite numbers, rounded once, by big numbers; others by float64.
func exactly(a, b float64, times bool) float64 {
	if a-a != 0 || b-b != 0 || a == 0 || b == 0 {
		if times {
			return a * b
		}
		return a + b
	}
	x, y := new(big.Float).SetPrec(4400).SetFloat64(a), new(big.Float).SetPrec(4400).SetFloat64(b)
	if times {
		v, _ := x.Mul(x, y).Float64()
		return v
	}
	v, _ := x.Add(x, y).Float64() // of a sum that is 0: 0
	return v
}

func modelSum(v []float64) float64 {
	sum := v[0]
	for i := 1; i < len(v); i++ {
		sum = exactly(sum, v[i], false)
	}
	return sum
}

// modelFold: by the words of the table, each step rounded by itself.
func modelFold(word string, v []float64, param float64) (float64, api.Errno) {
	if !slices.Contains(foldWords, word) {
		return 0, api.ErrOp
	}
	n := float64(len(v))
	if n == 0 {
		return 0, api.ErrNone
	}
	switch word {
	case "count":
		return n, api.OK
	case "group":
		return 1, api.OK
	case "sum":
		return modelNaN(modelSum(v)), api.OK
	case "avg":
		return modelNaN(modelSum(v) / n), api.OK
	case "min", "max":
		numbers := slices.DeleteFunc(slices.Clone(v), math.IsNaN)
		if len(numbers) == 0 {
			return nan, api.OK
		}
		sort.SliceStable(numbers, func(i, j int) bool { return (numbers[i] < numbers[j]) == (word == "min") && numbers[i] != numbers[j] })
		return numbers[0], api.OK
	case "stdvar", "stddev":
		mean := modelSum(v) / n
		var squares []float64
		for _, x := range v {
			d := exactly(x, -mean, false)
			squares = append(squares, exactly(d, d, true))
		}
		variance := modelSum(squares) / n
		if word == "stddev" {
			variance = math.Sqrt(variance)
		}
		return modelNaN(variance), api.OK
	}
	return modelNaN(modelQuantile(param, v)), api.OK
}

func modelQuantile(q float64, v []float64) float64 {
	switch {
	case q != q:
		return nan
	case q < 0:
		return -inf
	case q > 1:
		return inf
	}
	rising := []float64{}
	for _, kind := range []func(x float64) bool{
		math.IsNaN,
		func(x float64) bool { return x < 0 },
		func(x float64) bool { return x == 0 && math.Signbit(x) },
		func(x float64) bool { return x == 0 && !math.Signbit(x) },
		func(x float64) bool { return x > 0 },
	} {
		some := []float64{}
		for _, x := range v {
			if kind(x) {
				some = append(some, x)
			}
		}
		sort.Float64s(some)
		rising = append(rising, some...)
	}
	k := exactly(q, float64(len(v)-1), true)
	i := 0
	for float64(i+1) <= k {
		i++
	}
	j := i + 1
	if j > len(v)-1 {
		j = len(v) - 1
	}
	w := k - float64(i)
	return exactly(exactly(rising[i], 1-w, true), exactly(rising[j], w, true), false)
}

func modelRight(l []api.Point) ([]api.Point, api.Errno) {
	if len(l) > 1000 {
		return nil, api.ErrLarge
	}
	for _, p := range l {
		if e, _ := labels.Right(p.Labels); e != api.OK {
			return nil, api.ErrLabel
		}
	}
	for i := range l {
		for j := range i {
			if slices.Equal(l[i].Labels, l[j].Labels) {
				return nil, api.ErrMany
			}
		}
	}
	return rising(l), api.OK
}

// rising answers the points in the order of their label sets.
func rising(l []api.Point) []api.Point {
	out := clone(l)
	sort.SliceStable(out, func(i, j int) bool { return labels.Compare(out[i].Labels, out[j].Labels) < 0 })
	return out
}

func modelGroup(set []api.Label, names []string, without bool) []api.Label {
	var out []api.Label
	for _, one := range set {
		named := slices.Contains(names, one.Name)
		if without && !named && one.Name != "__name__" || !without && named {
			out = append(out, one)
		}
	}
	return out
}

func wrongName(names []string) bool {
	return slices.ContainsFunc(names, func(s string) bool { return !labels.Name(s) })
}

// modelGroups: each point is held against the first of each group.
func modelGroups(l []api.Point, names []string, without bool) ([][]api.Point, api.Errno) {
	l, e := modelRight(l)
	if e != api.OK {
		return nil, e
	}
	if wrongName(names) {
		return nil, api.ErrName
	}
	var out [][]api.Point
points:
	for _, p := range l {
		for i := range out {
			if slices.Equal(modelGroup(p.Labels, names, without), modelGroup(out[i][0].Labels, names, without)) {
				out[i] = append(out[i], p)
				continue points
			}
		}
		out = append(out, []api.Point{p})
	}
	sort.SliceStable(out, func(i, j int) bool {
		return labels.Compare(modelGroup(out[i][0].Labels, names, without), modelGroup(out[j][0].Labels, names, without)) < 0
	})
	return out, api.OK
}

// modelFirst: point by point the one that stands first of those that are left.
func modelFirst(l []api.Point, top bool, k float64) []api.Point {
	left := slices.Clone(l)
	var out []api.Point
	for n := 1.0; n <= k && len(left) > 0; n++ {
		best := 0
		for i := range left {
			a, b := left[i].V, left[best].V
			if a == a && (b != b || top && a > b || !top && a < b) {
				best = i
			}
		}
		out = append(out, left[best])
		left = slices.Delete(left, best, best+1)
	}
	return out
}

func modelNumber(word string, l []api.Point, names []string, without bool, param float64) ([]api.Point, api.Errno) {
	if !slices.Contains(words, word) {
		return nil, api.ErrOp
	}
	groups, e := modelGroups(l, names, without)
	if e != api.OK {
		return nil, e
	}
	var out []api.Point
	for _, g := range groups {
		if word == "topk" || word == "bottomk" {
			out = append(out, modelFirst(g, word == "topk", param)...)
			continue
		}
		var v []float64
		for _, p := range g {
			v = append(v, p.V)
		}
		x, _ := modelFold(word, v, param)
		out = append(out, api.Point{Labels: modelGroup(g[0].Labels, names, without), V: x})
	}
	return rising(out), api.OK
}

func modelValues(l []api.Point, names []string, without bool, name string) ([]api.Point, api.Errno) {
	if !labels.Name(name) {
		return nil, api.ErrName
	}
	groups, e := modelGroups(l, names, without)
	if e != api.OK {
		return nil, e
	}
	var out []api.Point
	for _, g := range groups {
	points:
		for _, p := range g {
			set := slices.DeleteFunc(modelGroup(p.Labels, names, without), func(one api.Label) bool { return one.Name == name })
			set = append(set, api.Label{Name: name, Value: expo.Text(p.V)})
			sort.Slice(set, func(i, j int) bool { return set[i].Name < set[j].Name })
			if len(set) > 16 {
				return nil, api.ErrFull
			}
			for i := range out {
				if slices.Equal(out[i].Labels, set) {
					out[i].V++
					continue points
				}
			}
			out = append(out, api.Point{Labels: set, V: 1})
		}
	}
	return rising(out), api.OK
}

// someValues come again and again.
var someValues = []float64{0, 1, 2, 3, -1, 0.5, minusZero, inf, -inf, stale, nan, otherNaN, 1e300, 5e-324, 0.1, 1.1, 1e16}

// somePoints answers points of few labels and values, in any order; now and then with a fault.
func somePoints(r *rand.Rand) []api.Point {
	var l []api.Point
	for range r.Intn(12) {
		p := api.Point{V: someValues[r.Intn(len(someValues))]}
		for _, name := range []string{"__name__", "a", "b", "c"} {
			if v := r.Intn(4); v < 3 {
				p.Labels = append(p.Labels, api.Label{Name: name, Value: strconv.Itoa(v)})
			}
		}
		if r.Intn(100) == 0 {
			p.Labels = append(p.Labels, api.Label{Name: "a", Value: ""})
		}
		if !slices.ContainsFunc(l, func(q api.Point) bool { return slices.Equal(p.Labels, q.Labels) }) || r.Intn(6) == 0 {
			l = append(l, p)
		}
	}
	return l
}

func someNames(r *rand.Rand) []string {
	var l []string
	for range r.Intn(4) {
		l = append(l, []string{"a", "b", "c", "__name__", "x"}[r.Intn(5)])
	}
	if r.Intn(40) == 0 {
		l = append(l, []string{"", "1", "a:b", "é"}[r.Intn(4)])
	}
	return l
}

func someParam(r *rand.Rand) float64 {
	switch r.Intn(3) {
	case 0:
		return r.Float64()
	case 1:
		return float64(r.Intn(12)) / 2
	}
	return []float64{0, minusZero, 1, 0.25, 0.5, 0.75, -1, -5e-324, 1.0000000000000002, 0.9999999999999999, 2, 1.9, 1000, 1e300, inf, -inf, nan, stale}[r.Intn(18)]
}

// check holds an answer against what is asked for.
func check(t testing.TB, what string, got []api.Point, ge api.Errno, want []api.Point, e api.Errno) {
	t.Helper()
	if ge != e || !sameList(got, want) || e != api.OK && got != nil {
		t.Fatalf("%s: %s %d, not %s %d", what, show(got), ge, show(want), e)
	}
}

func checkNumber(t testing.TB, word string, l []api.Point, names []string, without bool, param float64) {
	t.Helper()
	want, e := modelNumber(word, l, names, without, param)
	got, ge := Number(word, l, names, without, param)
	check(t, "Number "+word+" "+strings.Join(names, ",")+" "+strconv.FormatBool(without)+" "+strconv.FormatFloat(param, 'g', -1, 64)+" of "+show(l), got, ge, want, e)
}

func checkValues(t testing.TB, l []api.Point, names []string, without bool, name string) {
	t.Helper()
	want, e := modelValues(l, names, without, name)
	got, ge := Values(l, names, without, name)
	check(t, "Values "+strings.Join(names, ",")+" "+strconv.FormatBool(without)+" "+name+" of "+show(l), got, ge, want, e)
}

func checkGroups(t testing.TB, l []api.Point, names []string, without bool) {
	t.Helper()
	want, e := modelGroups(l, names, without)
	got, ge := Groups(l, names, without)
	if ge != e || !sameLists(got, want) || e != api.OK && got != nil {
		t.Fatal("Groups", names, without, show(l), got, ge, want, e)
	}
	for _, p := range l {
		e, _ := labels.Right(p.Labels)
		if e == api.OK && wrongName(names) {
			e = api.ErrName
		}
		var want []api.Label
		if e == api.OK {
			want = modelGroup(p.Labels, names, without)
		}
		if got, ge := Group(p.Labels, names, without); ge != e || !slices.Equal(got, want) || e != api.OK && got != nil {
			t.Fatal("Group", names, without, p.Labels, got, ge, want, e)
		}
	}
}

func checkFold(t testing.TB, word string, v []float64, param float64) {
	t.Helper()
	want, e := modelFold(word, v, param)
	if got, ge := Fold(word, v, param); ge != e || !same(got, want) {
		t.Fatalf("Fold(%s, %v, %g) = %g (%x), %d, not %g (%x), %d", word, v, param, got, math.Float64bits(got), ge, want, math.Float64bits(want), e)
	}
}
