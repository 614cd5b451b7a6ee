package eval

import (
	"math"
	"math/rand"
	"slices"
	"sort"
	"strconv"
	"strings"
	"testing"

	"tocsin/api"
	"tocsin/labels"
	"tocsin/over"
	"tocsin/store"
)

// gen makes texts of expressions whose types fit.
type gen struct{ r *rand.Rand }

func pick[T any](r *rand.Rand, l ...T) T { return l[r.Intn(len(l))] }

func (g gen) name() string { return pick(g.r, "a", "b", "le", "__name__", "x") }

func (g gen) names(least int) string {
	var l []string
	for range least + g.r.Intn(3) {
		l = append(l, g.name())
	}
	return "(" + strings.Join(l, ", ") + ")"
}

func (g gen) selector() string {
	name := pick(g.r, "m", "n", "h", "m", "n", "none")
	var l []string
	for range g.r.Intn(3) {
		l = append(l, pick(g.r, "a", "b", "x", "le")+pick(g.r, "=", "=", "!=", "=~", "!~")+pick(g.r, `"1"`, `"2"`, `""`, `"1|2"`, `".+"`))
	}
	switch g.r.Intn(8) {
	case 0:
		return `{__name__=~".+"` + strings.Join(append([]string{""}, l...), ",") + "}"
	case 1:
		return `{a=~".+"` + strings.Join(append([]string{""}, l...), ",") + "}"
	case 2:
		return `{x="1",a="2"` + strings.Join(append([]string{""}, l...), ",") + "}"
	}
	if len(l) == 0 {
		return name
	}
	return name + "{" + strings.Join(l, ",") + "}"
}

func (g gen) offset() string {
	if g.r.Intn(4) > 0 {
		return ""
	}
	return " offset " + pick(g.r, "1ms", "5s", "10s", "20s", "1m", "1h")
}

func (g gen) matrix(size int) string {
	s := g.selector() + "[" + pick(g.r, "1ms", "10s", "15s", "30s", "1m", "1m", "1h") + "]" + g.offset()
	return g.within(s)
}

// within puts what may stand in parentheses into them, now and then.
func (g gen) within(s string) string {
	for g.r.Intn(6) == 0 {
		s = "(" + s + ")"
	}
	return s
}

func (g gen) text(s string) string { return g.within(strconv.Quote(s)) }

func (g gen) number() string {
	return pick(g.r, "0", "1", "2", "0.5", "-1", "-0", "NaN", "Inf", "-Inf", "1e300", "0.9", "3", "(1)")
}

func (g gen) scalar(size int) string {
	if size <= 0 {
		return pick(g.r, g.number(), g.number(), "time()")
	}
	switch g.r.Intn(6) {
	case 0:
		return "scalar(" + g.vector(size-1) + ")"
	case 1:
		return "(" + g.scalar(size/2) + " " + pick(g.r, "+", "-", "*", "/", "%", "^", "== bool", "!= bool", "> bool", "< bool", ">= bool", "<= bool") + " " + g.scalar(size/2) + ")"
	case 2:
		return "-" + g.scalar(size-1)
	case 3:
		return g.within(g.scalar(size - 1))
	}
	return pick(g.r, g.number(), "time()")
}

func (g gen) operator(ofVectors bool) string {
	s := pick(g.r, "+", "-", "*", "/", "%", "^", "==", "!=", ">", "<", ">=", "<=")
	if ofVectors && g.r.Intn(3) == 0 {
		s = pick(g.r, "and", "or", "unless")
	}
	isSet := len(s) > 1 && s[0] >= 'a'
	if strings.ContainsAny(s, "=<>") && g.r.Intn(3) == 0 {
		s += " bool"
	}
	if !ofVectors || g.r.Intn(3) == 0 {
		return s
	}
	s += pick(g.r, " on ", " ignoring ") + g.names(0)
	if !isSet && g.r.Intn(2) == 0 {
		s += pick(g.r, " group_left", " group_right") + pick(g.r, "()", "(zz)", "(zz, c)", "(b)")
	}
	return s
}

func (g gen) binary(size int) string {
	switch g.r.Intn(4) {
	case 0:
		return g.scalar(size/2) + " " + g.operator(false) + " " + g.vector(size/2)
	case 1:
		return g.vector(size/2) + " " + g.operator(false) + " " + g.scalar(size/2)
	}
	return g.vector(size/2) + " " + g.operator(true) + " " + g.vector(size/2)
}

func (g gen) aggregation(size int) string {
	word := pick(g.r, "sum", "avg", "min", "max", "count", "group", "stddev", "stdvar", "topk", "bottomk", "quantile", "count_values")
	args := g.vector(size - 1)
	switch word {
	case "topk", "bottomk", "quantile":
		args = g.scalar(size/2) + ", " + args
	case "count_values":
		args = g.text(g.name()) + ", " + args
	}
	if g.r.Intn(4) == 0 {
		return word + "(" + args + ")"
	}
	return word + pick(g.r, " by ", " without ") + g.names(0) + " (" + args + ")"
}

func (g gen) call(size int) string {
	name := pick(g.r, "abs", "ceil", "floor", "round", "sqrt", "sgn", "sort", "sort_desc", "timestamp", "absent", "clamp", "clamp_min", "clamp_max", "histogram_quantile", "histogram_quantile", "label_join", "vector", "absent_over_time", "timestamp", "absent")
	if g.r.Intn(3) == 0 {
		name = pick(g.r, over.Names()...)
	}
	var args []string
	switch name {
	case "vector":
		args = []string{g.scalar(size - 1)}
	case "clamp":
		args = []string{g.vector(size - 1), g.scalar(size / 2), g.scalar(size / 2)}
	case "clamp_min", "clamp_max":
		args = []string{g.vector(size - 1), g.scalar(size / 2)}
	case "histogram_quantile":
		args = []string{g.scalar(size / 2), pick(g.r, g.vector(size-1), "h", `{__name__=~".+"}`)}
	case "label_join":
		args = []string{g.vector(size - 1), g.text(g.name()), g.text(pick(g.r, "", "-", strings.Repeat("é", 100)))}
		for range g.r.Intn(4) {
			args = append(args, g.text(g.name()))
		}
	case "quantile_over_time":
		args = []string{g.scalar(size / 2), g.matrix(size)}
	case "timestamp", "absent":
		args = []string{pick(g.r, g.within(g.selector()+g.offset()), g.vector(size-1))}
	case "absent_over_time":
		args = []string{g.matrix(size)}
	default:
		if is, _ := over.Has(name); is {
			args = []string{g.matrix(size)}
		} else {
			args = []string{g.vector(size - 1)}
		}
	}
	return name + "(" + strings.Join(args, ", ") + ")"
}

func (g gen) vector(size int) string {
	if size <= 0 {
		return g.selector() + g.offset()
	}
	switch g.r.Intn(8) {
	case 0:
		return "(" + g.binary(size) + ")"
	case 1:
		return g.aggregation(size)
	case 2:
		return "-" + g.within(g.selector())
	case 3:
		return "(" + g.vector(size-1) + ")"
	case 4:
		return g.selector() + g.offset()
	}
	return g.call(size)
}

func (g gen) any() string {
	switch g.r.Intn(20) {
	case 0:
		return g.matrix(2)
	case 1:
		return g.text(pick(g.r, "", "x", "\n\"é"))
	case 2, 3:
		return g.scalar(4)
	case 4, 5, 6:
		return g.binary(5)
	}
	return g.vector(1 + g.r.Intn(5))
}

var someValues = []float64{0, 1, 2, 3, -1, 0.5, -0.5, minusZero, inf, -inf, stale, stale, nan, otherNaN, 1e300, 2.5, 4, 10}

// world makes a few series, and a store in whose blocks and head they lie.
func world(t testing.TB, r *rand.Rand) ([]api.Series, *store.Store) {
	var all, old, young []api.Series
	clean := r.Intn(3) == 0
	for _, name := range []string{"m", "n", "h"} {
		seen := []string{}
		for range r.Intn(6) {
			set := of("__name__", name)
			for _, label := range []string{"a", "b", "le"} {
				value := pick(r, "1", "2", "")
				if label == "le" {
					value = ""
					if name == "h" || r.Intn(8) == 0 {
						value = pick(r, "1", "2", "+Inf", "+Inf", "0", "-1", "0.5", "1.0", "Inf", "NaN", "x", "")
					}
				}
				if value != "" {
					set = append(set, api.Label{Name: label, Value: value})
				}
			}
			key, _ := labels.Print(set)
			if slices.Contains(seen, key) {
				continue
			}
			seen = append(seen, key)
			var samples []api.Sample
			v := 0.0
			for ts := r.Int63n(20 * second); ts < 100*second; ts += 1 + r.Int63n(25*second) {
				v += float64(r.Intn(4))
				x := v
				if !clean && r.Intn(3) == 0 {
					x = someValues[r.Intn(len(someValues))]
				}
				samples = append(samples, at(ts, x))
			}
			if len(samples) == 0 {
				continue
			}
			cut := r.Intn(len(samples) + 1)
			all = append(all, api.Series{Labels: set, Samples: samples})
			if cut > 0 {
				old = append(old, api.Series{Labels: set, Samples: samples[:cut]})
			}
			if cut < len(samples) {
				young = append(young, api.Series{Labels: set, Samples: samples[cut:]})
			}
		}
	}
	rise := func(l []api.Series) {
		sort.Slice(l, func(i, j int) bool { return labels.Compare(l[i].Labels, l[j].Labels) < 0 })
	}
	rise(all)
	rise(old)
	rise(young)
	if len(old) == 0 {
		return all, stored(t, young)
	}
	return all, stored(t, young, old)
}

func someTime(r *rand.Rand) int64 {
	switch r.Intn(12) {
	case 0:
		return pick(r, 0, 1<<50, 1, int64(1<<50)+1, -1)
	}
	return r.Int63n(120 * second)
}

func someLookback(r *rand.Rand) int64 {
	if r.Intn(30) == 0 {
		return pick(r, int64(0), 1<<40+1, -1, math.MinInt64, math.MaxInt64)
	}
	return pick(r, int64(1), 10*second, 30*second, 300*second, 300*second, 1<<40)
}
