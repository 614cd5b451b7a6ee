package eval

import (
	"fmt"
	"math"
	"slices"
	"sort"
	"strconv"
	"strings"
	"testing"

	"tocsin/aggr"
	"tocsin/api"
	"tocsin/block"
	"tocsin/expo"
	"tocsin/head"
	"tocsin/labels"
	"tocsin/lex"
	"tocsin/match"
	"tocsin/over"
	"tocsin/parse"
	"tocsin/store"
	"tocsin/vec"
)

var (
	stale     = math.Float64frombits(0x7ff0000000000002)
	nan       = math.Float64frombits(0x7ff8000000000001)
	otherNaN  = math.Float64frombits(0xfff8000000000123)
	minusZero = math.Copysign(0, -1)
	inf       = math.Inf(1)
)

const second = 1000

func same(a, b float64) bool { return math.Float64bits(a) == math.Float64bits(b) }

// of: labels of names and values in turn.
func of(texts ...string) []api.Label {
	var l []api.Label
	for i := 0; i+1 < len(texts); i += 2 {
		l = append(l, api.Label{Name: texts[i], Value: texts[i+1]})
	}
	return l
}

func at(t int64, v float64) api.Sample { return api.Sample{T: t, V: v} }

// ser: a series of a label set's text and samples.
func ser(set string, samples ...api.Sample) api.Series {
	l, e, _ := labels.Parse(set)
	if e != api.OK {
		panic(set)
	}
	return api.Series{Labels: l, Samples: samples}
}

// stored answers a store of a head's series, and of blocks.
func stored(t testing.TB, inHead []api.Series, blocks ...[]api.Series) *store.Store {
	t.Helper()
	h := head.New(1000, 100000)
	for _, s := range inHead {
		for _, one := range s.Samples {
			if e := h.Append(s.Labels, one); e != api.OK {
				t.Fatal("Append", s.Labels, one, e)
			}
		}
	}
	s := store.New(h)
	for _, l := range blocks {
		b, e, i := block.Build(l)
		if e != api.OK {
			t.Fatal("Build", e, i)
		}
		x, e := block.Open(b)
		if e != api.OK {
			t.Fatal("Open", e)
		}
		if e := s.Add(x); e != api.OK {
			t.Fatal("Add", e)
		}
	}
	return s
}

// tree answers the tree of a text that can be read.
func tree(t testing.TB, text string) api.Tree {
	t.Helper()
	out, e, place := parse.Parse(text)
	if e != api.OK {
		t.Fatal("Parse", text, e, place)
	}
	return out
}

func clonePoints(l []api.Point) []api.Point {
	var out []api.Point
	for _, p := range l {
		out = append(out, api.Point{Labels: slices.Clone(p.Labels), V: p.V})
	}
	return out
}

func cloneSeries(l []api.Series) []api.Series {
	var out []api.Series
	for _, s := range l {
		out = append(out, api.Series{Labels: slices.Clone(s.Labels), Samples: slices.Clone(s.Samples)})
	}
	return out
}

func clone(v api.Value) api.Value {
	v.Points, v.Series = clonePoints(v.Points), cloneSeries(v.Series)
	return v
}

// spoil writes into all lists of a value, and appends to them.
func spoil(v api.Value) {
	wrong := api.Label{Name: "!", Value: "!"}
	for i := range v.Points {
		_ = append(v.Points[i].Labels, wrong)
		for j := range v.Points[i].Labels {
			v.Points[i].Labels[j] = wrong
		}
		v.Points[i] = api.Point{V: -77}
	}
	_ = append(v.Points, api.Point{V: -7})
	spoilSeries(v.Series)
}

func spoilSeries(l []api.Series) {
	wrong := api.Label{Name: "!", Value: "!"}
	for i := range l {
		_ = append(l[i].Labels, wrong)
		_ = append(l[i].Samples, at(-7, -7))
		for j := range l[i].Labels {
			l[i].Labels[j] = wrong
		}
		for j := range l[i].Samples {
			l[i].Samples[j] = at(-77, -77)
		}
		l[i] = api.Series{}
	}
	_ = append(l, api.Series{})
}

// exact answers a value with the bits of its floats, to be held against another one.
func exact(v api.Value) string {
	var b strings.Builder
	fmt.Fprintf(&b, "kind %d, %x, %q", v.Kind, math.Float64bits(v.V), v.Text)
	for _, p := range v.Points {
		fmt.Fprintf(&b, "\n%q %g %x", p.Labels, p.V, math.Float64bits(p.V))
	}
	return b.String() + exactSeries(v.Series)
}

func exactSeries(l []api.Series) string {
	var b strings.Builder
	for _, s := range l {
		fmt.Fprintf(&b, "\n%q", s.Labels)
		for _, x := range s.Samples {
			fmt.Fprintf(&b, " %d: %g %x", x.T, x.V, math.Float64bits(x.V))
		}
	}
	return b.String()
}

// model reckons by the words of the chapter, from the root on down, over merged series.
type model struct {
	series       []api.Series
	nodes        []api.Node
	at, lookback int64
	read         int
}

type fault api.Errno

func must[T any](v T, e api.Errno) T {
	if e != api.OK {
		panic(fault(e))
	}
	return v
}

func modelInstant(series []api.Series, t api.Tree, at, lookback int64) (v api.Value, e api.Errno) {
	if _, e, _ := parse.Check(t); e != api.OK {
		return v, e
	}
	if at < 0 || at > 1<<50 || lookback < 1 || lookback > 1<<40 {
		return v, api.ErrArg
	}
	defer func() {
		switch x := recover().(type) {
		case nil:
		case fault:
			v, e = api.Value{}, api.Errno(x)
		default:
			panic(x)
		}
	}()
	m := &model{series: series, nodes: t.Nodes, at: at, lookback: lookback}
	return m.value(len(t.Nodes) - 1), api.OK
}

func modelRange(series []api.Series, t api.Tree, from, to, step, lookback int64) ([]api.Series, api.Errno) {
	kind, e, _ := parse.Check(t)
	if e != api.OK {
		return nil, e
	}
	if kind == api.VString || kind == api.VMatrix {
		return nil, api.ErrType
	}
	if from < 0 || to > 1<<50 || from > to || step < 1 || step > 1<<40 || lookback < 1 || lookback > 1<<40 || (to-from)/step+1 > 11000 {
		return nil, api.ErrArg
	}
	rows := map[string]*api.Series{}
	count := 0
	for now := from; now <= to; now += step {
		v, e := modelInstant(series, t, now, lookback)
		if e != api.OK {
			return nil, e
		}
		if kind == api.VScalar {
			v.Points = []api.Point{{V: v.V}}
		}
		for _, p := range v.Points {
			key := fmt.Sprintf("%q", p.Labels)
			if rows[key] == nil {
				rows[key] = &api.Series{Labels: p.Labels}
			}
			rows[key].Samples = append(rows[key].Samples, at(now, p.V))
			count++
		}
	}
	if len(rows) > 1000 {
		return nil, api.ErrFull
	}
	if count > 100000 {
		return nil, api.ErrLarge
	}
	var out []api.Series
	for _, s := range rows {
		out = append(out, *s)
	}
	sort.Slice(out, func(i, j int) bool { return labels.Compare(out[i].Labels, out[j].Labels) < 0 })
	return out, api.OK
}

func modelNaN(v float64) float64 {
	if v != v {
		return nan
	}
	return v
}

// between answers the series that the matchers match, with the samples above one time up to another one.
func (m *model) between(ms []api.Matcher, above, to int64) []api.Series {
	var out []api.Series
	count := 0
	for _, s := range m.series {
		if is, e := match.All(ms, s.Labels); e != api.OK || !is {
			continue
		}
		one := api.Series{Labels: s.Labels}
		for _, x := range s.Samples {
			if x.T > above && x.T <= to {
				one.Samples = append(one.Samples, x)
			}
		}
		if len(one.Samples) > 0 {
			out = append(out, one)
			count += len(one.Samples)
		}
	}
	if count > 100000 {
		panic(fault(api.ErrLarge))
	}
	return out
}

func (m *model) reads(n int) {
	if m.read += n; m.read > 100000 {
		panic(fault(api.ErrLarge))
	}
}

func (m *model) selected(n api.Node) api.Value {
	to := m.at - n.Offset
	if n.Range > 0 {
		v := api.Value{Kind: api.VMatrix}
		for _, s := range m.between(n.Matchers, to-n.Range, to) {
			m.reads(len(s.Samples))
			s.Samples = slices.DeleteFunc(s.Samples, func(x api.Sample) bool { return same(x.V, stale) })
			if len(s.Samples) > 0 {
				v.Series = append(v.Series, s)
			}
		}
		return v
	}
	v := api.Value{Kind: api.VVector}
	for _, s := range m.between(n.Matchers, to-m.lookback, to) {
		if last := s.Samples[len(s.Samples)-1]; !same(last.V, stale) {
			v.Points = append(v.Points, api.Point{Labels: s.Labels, V: last.V})
		}
	}
	if len(v.Points) > 1000 {
		panic(fault(api.ErrLarge))
	}
	m.reads(len(v.Points))
	return v
}

func ofNumber(v float64) api.Value     { return api.Value{Kind: api.VScalar, V: v} }
func ofPoints(l []api.Point) api.Value { return api.Value{Kind: api.VVector, Points: l} }

// value of a node, whose parts are reckoned first, in their order.
func (m *model) value(i int) api.Value {
	n := m.nodes[i]
	switch n.Kind {
	case api.NNumber:
		return ofNumber(n.Num)
	case api.NString:
		return api.Value{Kind: api.VString, Text: n.Text}
	case api.NParen:
		return m.value(n.A)
	case api.NSelect:
		return m.selected(n)
	case api.NNeg:
		v := m.value(n.A)
		if v.Kind == api.VScalar {
			return ofNumber(modelNaN(-v.V))
		}
		return ofPoints(must(vec.Neg(v.Points)))
	case api.NBinary:
		return m.binary(n)
	case api.NAggr:
		var param api.Value
		if n.B != -1 {
			param = m.value(n.B)
		}
		l := m.value(n.A).Points
		if n.Text == "count_values" {
			return ofPoints(must(aggr.Values(l, n.By, n.Flag, param.Text)))
		}
		return ofPoints(must(aggr.Number(n.Text, l, n.By, n.Flag, param.V)))
	}
	return m.call(n)
}

func (m *model) binary(n api.Node) api.Value {
	a := m.value(n.A)
	b := m.value(n.B)
	comparison := n.Op >= api.OEq && n.Op <= api.OLe
	switch {
	case a.Kind == api.VVector && b.Kind == api.VVector:
		return ofPoints(must(vec.Binary(n.Op, a.Points, b.Points, n.Match, n.Flag)))
	case a.Kind == api.VVector:
		return ofPoints(must(vec.Right(n.Op, a.Points, b.V, n.Flag)))
	case b.Kind == api.VVector:
		return ofPoints(must(vec.Left(n.Op, a.V, b.Points, n.Flag)))
	case comparison:
		if must(vec.Holds(n.Op, a.V, b.V)) {
			return ofNumber(1)
		}
		return ofNumber(0)
	}
	return ofNumber(must(vec.Arith(n.Op, a.V, b.V)))
}

// inside answers the node that stands in parentheses.
func (m *model) inside(i int) api.Node {
	if m.nodes[i].Kind == api.NParen {
		return m.inside(m.nodes[i].A)
	}
	return m.nodes[i]
}

// bare answers a vector of the points without __name__.
func bare(l []api.Point) api.Value {
	var out []api.Point
	for _, p := range l {
		set := slices.DeleteFunc(slices.Clone(p.Labels), func(x api.Label) bool { return x.Name == "__name__" })
		out = append(out, api.Point{Labels: set, V: p.V})
	}
	return ofPoints(must(vec.Vector(out)))
}

func mapped(l []api.Point, of func(v float64) float64) api.Value {
	l = clonePoints(l)
	for i := range l {
		l[i].V = modelNaN(of(l[i].V))
	}
	return bare(l)
}

func (m *model) call(n api.Node) api.Value {
	var args []api.Value
	for _, i := range n.Args {
		args = append(args, m.value(i))
	}
	if slices.Contains(over.Names(), n.Text) {
		return m.overTime(n, args)
	}
	switch n.Text {
	case "absent", "absent_over_time":
		if len(args[0].Points) > 0 || len(args[0].Series) > 0 {
			return ofPoints(nil)
		}
		return ofPoints([]api.Point{{Labels: modelAbsent(m.inside(n.Args[0]).Matchers), V: 1}})
	case "sort", "sort_desc":
		return args[0]
	case "timestamp":
		return m.timestamp(n, args[0].Points)
	case "histogram_quantile":
		return modelHistogram(args[0].V, args[1].Points)
	case "label_join":
		return modelJoin(args)
	case "scalar":
		if len(args[0].Points) != 1 {
			return ofNumber(nan)
		}
		return ofNumber(modelNaN(args[0].Points[0].V))
	case "vector":
		return ofPoints([]api.Point{{V: args[0].V}})
	case "time":
		return ofNumber(float64(m.at) / 1000)
	}
	return modelEach(n.Text, args)
}

func (m *model) overTime(n api.Node, args []api.Value) api.Value {
	x := m.inside(n.Args[len(args)-1])
	q := 0.0
	if len(args) == 2 {
		q = args[0].V
	}
	var out []api.Point
	for _, s := range args[len(args)-1].Series {
		v, is, e := over.Call(n.Text, s.Samples, m.at-x.Offset-x.Range, m.at-x.Offset, q)
		if must(is, e) {
			out = append(out, api.Point{Labels: s.Labels, V: v})
		}
	}
	if n.Text == "last_over_time" {
		return ofPoints(must(vec.Vector(out)))
	}
	return bare(out)
}

func (m *model) timestamp(n api.Node, l []api.Point) api.Value {
	x := m.inside(n.Args[0])
	if x.Kind != api.NSelect {
		return mapped(l, func(float64) float64 { return float64(m.at) / 1000 })
	}
	l = clonePoints(l)
	series := m.between(x.Matchers, m.at-x.Offset-m.lookback, m.at-x.Offset)
	for i := range l {
		for _, s := range series {
			if slices.Equal(s.Labels, l[i].Labels) {
				l[i].V = float64(s.Samples[len(s.Samples)-1].T) / 1000
			}
		}
	}
	return bare(l)
}

func modelAbsent(ms []api.Matcher) []api.Label {
	var out []api.Label
matchers:
	for i, x := range ms {
		if x.Op != api.MEq || x.Name == "__name__" || x.Value == "" {
			continue
		}
		for j, y := range ms {
			if i != j && x.Name == y.Name {
				continue matchers
			}
		}
		out = append(out, api.Label{Name: x.Name, Value: x.Value})
	}
	sort.Slice(out, func(i, j int) bool { return out[i].Name < out[j].Name })
	return out
}

// modelWhole: the whole number not below (up), not above v.
func modelWhole(v float64, up bool) float64 {
	if v != v || v >= 1<<53 || v <= -1<<53 || v == 0 {
		return v
	}
	w := float64(int64(v))
	switch {
	case up && w < v:
		w++
	case !up && w > v:
		w--
	}
	if w == 0 && v < 0 {
		return minusZero
	}
	return w
}

func modelEach(name string, args []api.Value) api.Value {
	l := args[0].Points
	bound := func(i int) float64 { return args[i].V }
	switch name {
	case "abs":
		return mapped(l, func(v float64) float64 { return math.Float64frombits(math.Float64bits(v) &^ (1 << 63)) })
	case "ceil":
		return mapped(l, func(v float64) float64 { return modelWhole(v, true) })
	case "floor":
		return mapped(l, func(v float64) float64 { return modelWhole(v, false) })
	case "round":
		return mapped(l, func(v float64) float64 { return modelWhole(v+0.5, false) })
	case "sqrt":
		return mapped(l, math.Sqrt)
	case "sgn":
		return mapped(l, func(v float64) float64 {
			if v != v || v == 0 {
				return v
			}
			return math.Copysign(1, v)
		})
	case "clamp":
		if bound(1) > bound(2) {
			return ofPoints(nil)
		}
		return mapped(l, func(v float64) float64 {
			switch {
			case bound(1) != bound(1) || bound(2) != bound(2):
				return nan
			case v > bound(2):
				return bound(2)
			case v < bound(1):
				return bound(1)
			}
			return v
		})
	case "clamp_min", "clamp_max":
		return mapped(l, func(v float64) float64 {
			if b := bound(1); b != b || name == "clamp_min" && v < b || name == "clamp_max" && v > b {
				return b
			}
			return v
		})
	}
	panic("no function " + name)
}

func modelJoin(args []api.Value) api.Value {
	var out []api.Point
	for _, p := range args[0].Points {
		joined := ""
		for i, name := range args[3:] {
			if i > 0 {
				joined += args[2].Text
			}
			joined += labels.Get(p.Labels, name.Text)
		}
		out = append(out, api.Point{Labels: must(labels.With(p.Labels, args[1].Text, joined)), V: p.V})
	}
	return ofPoints(must(vec.Vector(out)))
}

// modelHistogram: each group is found by holding its points against one another.
func modelHistogram(q float64, l []api.Point) api.Value {
	var out []api.Point
	var groups [][]api.Point
	rest := func(p api.Point) []api.Label {
		return slices.DeleteFunc(slices.Clone(p.Labels), func(x api.Label) bool { return x.Name == "le" || x.Name == "__name__" })
	}
	for _, p := range l {
		if le, e := expo.Float(labels.Get(p.Labels, "le")); e != api.OK || le != le {
			continue
		}
		i := slices.IndexFunc(groups, func(g []api.Point) bool { return slices.Equal(rest(g[0]), rest(p)) })
		if i < 0 {
			i = len(groups)
			groups = append(groups, nil)
		}
		groups[i] = append(groups[i], p)
	}
	for _, g := range groups {
		out = append(out, api.Point{Labels: rest(g[0]), V: modelNaN(modelBuckets(q, g))})
	}
	return ofPoints(must(vec.Vector(out)))
}

func modelBuckets(q float64, l []api.Point) float64 {
	var les []float64
	sums := map[float64]float64{}
	for _, p := range l {
		le, _ := expo.Float(labels.Get(p.Labels, "le"))
		if _, there := sums[le]; there {
			sums[le] += p.V
			continue
		}
		les = append(les, le)
		sums[le] = p.V
	}
	sort.Float64s(les)
	n := len(les)
	v := make([]float64, n)
	for i := range les {
		v[i] = sums[les[i]]
		if i > 0 && (v[i] != v[i] || v[i] < v[i-1]) {
			v[i] = v[i-1]
		}
	}
	if n < 2 || les[n-1] != inf || v[n-1] == 0 {
		return nan
	}
	if q < 0 {
		return -inf
	}
	if q > 1 {
		return inf
	}
	if q != q {
		return nan
	}
	r := q * v[n-1]
	b := 0
	for b < n-1 && !(v[b] >= r) {
		b++
	}
	if b == n-1 {
		return les[n-2]
	}
	if b == 0 {
		if !(les[0] > 0) {
			return les[0]
		}
		x := r / v[0]
		x = les[0] * x
		return 0 + x
	}
	x := (r - v[b-1]) / (v[b] - v[b-1])
	y := (les[b] - les[b-1]) * x
	return les[b-1] + y
}

// modelShow: by the words, line by line.
func modelShow(v api.Value) (string, api.Errno) {
	var lines []string
	switch v.Kind {
	case api.VScalar:
		return expo.Text(v.V), api.OK
	case api.VString:
		s, e := lex.Quote(v.Text)
		if e == api.OK && len(s) > 65536 {
			return "", api.ErrSize
		}
		return s, e
	case api.VVector:
		for _, p := range v.Points {
			s, e := labels.Print(p.Labels)
			if e != api.OK {
				return "", e
			}
			lines = append(lines, s+" "+expo.Text(p.V))
		}
	case api.VMatrix:
		for _, x := range v.Series {
			s, e := labels.Print(x.Labels)
			if e != api.OK {
				return "", e
			}
			parts := []string{s}
			for _, one := range x.Samples {
				parts = append(parts, expo.Text(one.V)+"@"+strconv.FormatInt(one.T, 10))
			}
			lines = append(lines, strings.Join(parts, " "))
		}
	default:
		return "", api.ErrArg
	}
	s := strings.Join(lines, "\n")
	if len(s) > 65536 {
		return "", api.ErrSize
	}
	return s, api.OK
}

// holds: an instant answer is what the model says.
func holds(t testing.TB, s *store.Store, series []api.Series, text string, now, lookback int64) (api.Value, api.Errno) {
	t.Helper()
	x := tree(t, text)
	want, e := modelInstant(series, x, now, lookback)
	got, ge := Instant(s, x, now, lookback)
	if ge != e || exact(got) != exact(want) {
		t.Fatalf("%s at %d, %d of %s\n%s %d\nnot\n%s %d", text, now, lookback, exactSeries(series), exact(got), ge, exact(want), e)
	}
	return got, ge
}

func holdsRange(t testing.TB, s *store.Store, series []api.Series, text string, from, to, step, lookback int64) ([]api.Series, api.Errno) {
	t.Helper()
	x := tree(t, text)
	want, e := modelRange(series, x, from, to, step, lookback)
	got, ge := Range(s, x, from, to, step, lookback)
	if ge != e || exactSeries(got) != exactSeries(want) || e != api.OK && got != nil {
		t.Fatalf("%s from %d to %d, %d, %d\n%s %d\nnot\n%s %d", text, from, to, step, lookback, exactSeries(got), ge, exactSeries(want), e)
	}
	return got, ge
}

// exactTree answers a tree as text, to be held against another one.
func exactTree(t api.Tree) string {
	return fmt.Sprintf("%q", fmt.Sprint(t))
}
