package eval

import (
	"math"
	"strings"

	"tocsin/api"
	"tocsin/labels"
	"tocsin/over"
	"tocsin/store"
	"tocsin/vec"
)

// asked is what a function is asked of: the numbers of its arguments' nodes, in a run.
type asked struct {
	run  *run
	args []int
}

func (a asked) arg(i int) api.Value {
	return a.run.values[a.args[i]]
}

func (a asked) points(i int) []api.Point {
	return a.arg(i).Points
}

func (a asked) selector(i int) (selector, bool) {
	return a.run.selectorOf(a.args[i])
}

// function is a function of the table, but those of package over.
type function struct {
	name  string
	value func(a asked) (api.Value, api.Errno)
}

func functions() []function {
	return []function{
		{"absent_over_time", absent},
		{"absent", absent},
		{"abs", each(size)},
		{"ceil", each(notBelow)},
		{"floor", each(notAbove)},
		{"round", each(round)},
		{"sqrt", each(root)},
		{"sgn", each(sign)},
		{"clamp", clamp},
		{"clamp_min", clampMin},
		{"clamp_max", clampMax},
		{"sort", asItIs},
		{"sort_desc", asItIs},
		{"timestamp", timestamp},
		{"histogram_quantile", histogramQuantile},
		{"label_join", labelJoin},
		{"scalar", single},
		{"vector", alone},
		{"time", now},
	}
}

// functionOf answers the function of a name; parse.Check takes no name that none has.
func functionOf(name string) function {
	if is, _ := over.Has(name); is {
		return function{name, ofRange(name)}
	}
	for _, f := range functions() {
		if f.name == name {
			return f
		}
	}
	return function{name, func(asked) (api.Value, api.Errno) { return api.Value{}, api.ErrOp }}
}

// nameless answers the vector of the points without their metrics' names.
func nameless(l []api.Point) (api.Value, api.Errno) {
	out := make([]api.Point, 0, len(l))
	for _, p := range l {
		set, _ := labels.Without(p.Labels, metricName)
		out = append(out, api.Point{Labels: set, V: p.V})
	}
	return vector(vec.Vector(out))
}

// valued answers the vector of the points with what their values come to.
func valued(l []api.Point, of func(v float64) float64) (api.Value, api.Errno) {
	out := make([]api.Point, 0, len(l))
	for _, p := range l {
		out = append(out, api.Point{Labels: p.Labels, V: told(of(p.V))})
	}
	return nameless(out)
}

// ofRange answers a function of package over.
func ofRange(name string) func(a asked) (api.Value, api.Errno) {
	_, hasParameter := over.Has(name)
	return func(a asked) (api.Value, api.Errno) {
		matrix, q := 0, 0.0
		if hasParameter {
			matrix, q = 1, a.arg(0).V
		}
		x, _ := a.selector(matrix) // a matrix is nothing else
		to := x.until(a.run)
		var out []api.Point
		for _, s := range a.arg(matrix).Series {
			v, is, e := over.Call(name, s.Samples, to-x.span, to, q)
			if e != api.OK {
				return api.Value{}, e
			}
			if is {
				out = append(out, api.Point{Labels: s.Labels, V: v})
			}
		}
		if name == "last_over_time" {
			return vector(vec.Vector(out))
		}
		return nameless(out)
	}
}

// absent tells 1, where its argument has nothing.
func absent(a asked) (api.Value, api.Errno) {
	if len(a.arg(0).Points)+len(a.arg(0).Series) > 0 {
		return vector(nil, api.OK)
	}
	x, _ := a.selector(0)
	return vector([]api.Point{{Labels: x.named(), V: 1}}, api.OK)
}

// each answers a function that goes from value to value.
func each(of func(v float64) float64) func(a asked) (api.Value, api.Errno) {
	return func(a asked) (api.Value, api.Errno) { return valued(a.points(0), of) }
}

func size(v float64) float64     { return math.Abs(v) }
func notBelow(v float64) float64 { return math.Ceil(v) }
func notAbove(v float64) float64 { return math.Floor(v) }
func root(v float64) float64     { return math.Sqrt(v) }

func round(v float64) float64 {
	return math.Floor(v + 0.5)
}

func sign(v float64) float64 {
	switch {
	case v > 0:
		return 1
	case v < 0:
		return -1
	}
	return v
}

func clamp(a asked) (api.Value, api.Errno) {
	lo, hi := a.arg(1).V, a.arg(2).V
	if lo > hi {
		return vector(nil, api.OK)
	}
	return valued(a.points(0), func(v float64) float64 { return atLeast(lo, atMost(hi, v)) })
}

func clampMin(a asked) (api.Value, api.Errno) {
	lo := a.arg(1).V
	return valued(a.points(0), func(v float64) float64 { return atLeast(lo, v) })
}

func clampMax(a asked) (api.Value, api.Errno) {
	hi := a.arg(1).V
	return valued(a.points(0), func(v float64) float64 { return atMost(hi, v) })
}

// atLeast answers v, or the bound that it is below; no number, if either is none.
func atLeast(lo, v float64) float64 {
	if v < lo || math.IsNaN(lo) {
		return lo
	}
	return v
}

// atMost answers v, or the bound that it is above; no number, if either is none.
func atMost(hi, v float64) float64 {
	if v > hi || math.IsNaN(hi) {
		return hi
	}
	return v
}

// asItIs: the order of a vector is always the same.
func asItIs(a asked) (api.Value, api.Errno) {
	return a.arg(0), api.OK
}

func timestamp(a asked) (api.Value, api.Errno) {
	x, is := a.selector(0)
	if !is {
		return valued(a.points(0), func(float64) float64 { return seconds(a.run.at) })
	}
	points, e := x.stamps(a.run)
	if e != api.OK {
		return api.Value{}, e
	}
	return nameless(points)
}

func labelJoin(a asked) (api.Value, api.Errno) {
	name, between := a.arg(1).Text, a.arg(2).Text
	var out []api.Point
	for _, p := range a.points(0) {
		var values []string
		for i := 3; i < len(a.args); i++ {
			values = append(values, labels.Get(p.Labels, a.arg(i).Text))
		}
		set, e := labels.With(p.Labels, name, strings.Join(values, between))
		if e != api.OK {
			return api.Value{}, e
		}
		out = append(out, api.Point{Labels: set, V: p.V})
	}
	return vector(vec.Vector(out))
}

// single answers the value of the one point that there is.
func single(a asked) (api.Value, api.Errno) {
	if l := a.points(0); len(l) == 1 {
		return scalar(told(l[0].V)), api.OK
	}
	return scalar(math.Float64frombits(store.NaN)), api.OK
}

// alone answers the one point of a scalar.
func alone(a asked) (api.Value, api.Errno) {
	return vector([]api.Point{{V: a.arg(0).V}}, api.OK)
}

func now(a asked) (api.Value, api.Errno) {
	return scalar(seconds(a.run.at)), api.OK
}
