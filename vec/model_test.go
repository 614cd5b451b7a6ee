package vec

import (
	"math"
	"math/big"
	"math/rand"
	"slices"
	"sort"
	"strconv"
	"strings"
	"testing"

	"tocsin/api"
	"tocsin/labels"
)

var (
	stale     = math.Float64frombits(0x7ff0000000000002)
	nan       = math.Float64frombits(0x7ff8000000000001)
	otherNaN  = math.Float64frombits(0xfff8000000000123)
	minusZero = math.Copysign(0, -1)
	inf       = math.Inf(1)
)

// ops are all operators; wrongOps are some that are none.
var (
	ops      = []int{api.OAdd, api.OSub, api.OMul, api.ODiv, api.OMod, api.OPow, api.OEq, api.ONe, api.OGt, api.OLt, api.OGe, api.OLe, api.OAnd, api.OOr, api.OUnless}
	wrongOps = []int{0, 16, -1, 17, 100, math.MinInt, math.MaxInt, math.MinInt32, math.MaxInt32}
)

func same(a, b float64) bool { return math.Float64bits(a) == math.Float64bits(b) }

// pts answers points of texts: labels as labels.Parse reads them, a blank, a value.
func pts(texts ...string) []api.Point {
	var l []api.Point
	for _, s := range texts {
		at := strings.LastIndex(s, " ")
		set, e, _ := labels.Parse(s[:at])
		v, err := strconv.ParseFloat(s[at+1:], 64)
		if e != api.OK || err != nil {
			panic(s)
		}
		if math.IsNaN(v) {
			v = nan
		}
		l = append(l, api.Point{Labels: set, V: v})
	}
	return l
}

// show answers points as texts, to be told of.
func show(l []api.Point) string {
	var b strings.Builder
	for _, p := range l {
		for _, one := range p.Labels {
			b.WriteString(one.Name + "=" + strconv.Quote(one.Value) + ",")
		}
		b.WriteString(" " + strconv.FormatFloat(p.V, 'g', -1, 64) + " " + strconv.FormatUint(math.Float64bits(p.V), 16) + "; ")
	}
	return b.String()
}

// sameList: by labels and bits, without Same.
func sameList(a, b []api.Point) bool {
	if len(a) != len(b) {
		return false
	}
	for i := range a {
		if len(a[i].Labels) != len(b[i].Labels) || !same(a[i].V, b[i].V) {
			return false
		}
		for j := range a[i].Labels {
			if a[i].Labels[j] != b[i].Labels[j] {
				return false
			}
		}
	}
	return true
}

// clone answers the same points as other memory.
func clone(l []api.Point) []api.Point {
	if l == nil {
		return nil
	}
	out := []api.Point{}
	for _, p := range l {
		out = append(out, api.Point{Labels: slices.Clone(p.Labels), V: p.V})
	}
	return out
}

// spoil writes into all of l, and appends to it.
func spoil(l []api.Point) {
	for i := range l {
		_ = append(l[i].Labels, api.Label{Name: "!"})
		for j := range l[i].Labels {
			l[i].Labels[j] = api.Label{Name: "!", Value: "!"}
		}
		l[i].V = -77
	}
	_ = append(l, api.Point{V: -7})
	clear(l)
}

func modelNaN(v float64) float64 {
	if v != v {
		return nan
	}
	return v
}

// modelMod: by exact whole numbers of 2 to the -1074.
func modelMod(a, b float64) float64 {
	switch {
	case a != a || b != b || a-a != 0 || b == 0:
		return nan
	case b-b != 0:
		return a
	}
	scaled := func(v float64) *big.Int {
		f := new(big.Float).SetFloat64(v)
		f.SetMantExp(f, 1074)
		n, _ := f.Int(nil)
		return n
	}
	r := new(big.Int).Rem(scaled(a), scaled(b))
	f := new(big.Float).SetPrec(2200).SetInt(r)
	f.SetMantExp(f, -1074)
	v, exact := f.Float64()
	if exact != big.Exact {
		panic("a rest that is no float")
	}
	return math.Copysign(math.Abs(v), a)
}

func modelPow(a, b float64) float64 {
	for n := 0; n <= 1024; n++ {
		if b != float64(n) && b != float64(-n) {
			continue
		}
		v := 1.0
		for i := 0; i < n; i++ {
			v = v * a
		}
		if b < 0 {
			v = 1 / v
		}
		return modelNaN(v)
	}
	return nan
}

func modelArith(op int, a, b float64) (float64, api.Errno) {
	switch op {
	case 1:
		return modelNaN(a + b), api.OK
	case 2:
		return modelNaN(a - b), api.OK
	case 3:
		return modelNaN(a * b), api.OK
	case 4:
		return modelNaN(a / b), api.OK
	case 5:
		return modelMod(a, b), api.OK
	case 6:
		return modelPow(a, b), api.OK
	}
	return 0, api.ErrOp
}

func modelHolds(op int, a, b float64) (bool, api.Errno) {
	switch op {
	case 7:
		return a == b, api.OK
	case 8:
		return a != b, api.OK
	case 9:
		return a > b, api.OK
	case 10:
		return a < b, api.OK
	case 11:
		return a >= b, api.OK
	case 12:
		return a <= b, api.OK
	}
	return false, api.ErrOp
}

func sameSet(a, b []api.Label) bool { return slices.Equal(a, b) }

// modelVector: each point is held against each other one.
func modelVector(l []api.Point) ([]api.Point, api.Errno) {
	if len(l) > 1000 {
		return nil, api.ErrLarge
	}
	for _, p := range l {
		if e, _ := labels.Right(p.Labels); e != api.OK {
			return nil, api.ErrLabel
		}
	}
	for i := range l {
		for j := range i {
			if sameSet(l[i].Labels, l[j].Labels) {
				return nil, api.ErrMany
			}
		}
	}
	out := clone(l)
	sort.SliceStable(out, func(i, j int) bool { return labels.Compare(out[i].Labels, out[j].Labels) < 0 })
	return out, api.OK
}

// only answers the labels whose names are among these, or are not.
func only(set []api.Label, names []string, among bool) []api.Label {
	var out []api.Label
	for _, one := range set {
		if slices.Contains(names, one.Name) == among {
			out = append(out, one)
		}
	}
	return out
}

func unnamed(set []api.Label) []api.Label { return only(set, []string{"__name__"}, false) }

func modelSignature(set []api.Label, m api.Match) []api.Label {
	if m.On {
		return only(set, m.Labels, true)
	}
	return unnamed(only(set, m.Labels, false))
}

// modelEach: Left, if left, else Right.
func modelEach(op int, x float64, l []api.Point, flag, left bool) ([]api.Point, api.Errno) {
	if op < 1 || op > 12 {
		return nil, api.ErrOp
	}
	v, e := modelVector(l)
	if e != api.OK {
		return nil, e
	}
	var out []api.Point
	for _, p := range v {
		a, b := p.V, x
		if left {
			a, b = x, p.V
		}
		if op <= 6 {
			n, _ := modelArith(op, a, b)
			out = append(out, api.Point{Labels: unnamed(p.Labels), V: n})
			continue
		}
		holds, _ := modelHolds(op, a, b)
		switch {
		case flag && holds:
			out = append(out, api.Point{Labels: unnamed(p.Labels), V: 1})
		case flag:
			out = append(out, api.Point{Labels: unnamed(p.Labels), V: 0})
		case holds:
			out = append(out, p)
		}
	}
	return modelVector(out)
}

func modelNeg(l []api.Point) ([]api.Point, api.Errno) {
	v, e := modelVector(l)
	if e != api.OK {
		return nil, e
	}
	for i := range v {
		v[i].Labels = unnamed(v[i].Labels)
		v[i].V = modelNaN(math.Copysign(v[i].V, -math.Copysign(1, v[i].V)))
	}
	return modelVector(v)
}

func modelFault(op int, m api.Match) api.Errno {
	if op < 1 || op > 15 {
		return api.ErrOp
	}
	if m.Card < 0 || m.Card > 3 || (m.Card == 3) != (op >= 13) {
		return api.ErrArg
	}
	for _, name := range append(slices.Clone(m.Labels), m.Include...) {
		if !labels.Name(name) {
			return api.ErrName
		}
	}
	if len(m.Include) > 0 && (m.Card == 0 || m.Card == 3) {
		return api.ErrArg
	}
	for _, name := range m.Include {
		if m.On && slices.Contains(m.Labels, name) {
			return api.ErrArg
		}
	}
	return api.OK
}

func modelSets(op int, l, r []api.Point, m api.Match) []api.Point {
	has := func(l []api.Point, p api.Point) bool {
		return slices.ContainsFunc(l, func(q api.Point) bool {
			return sameSet(modelSignature(p.Labels, m), modelSignature(q.Labels, m))
		})
	}
	var out []api.Point
	for _, p := range l {
		if op == 14 || has(r, p) == (op == 13) {
			out = append(out, p)
		}
	}
	for _, p := range r {
		if op == 14 && !has(l, p) {
			out = append(out, p)
		}
	}
	return out
}

// modelLabels: a result's labels, name by name.
func modelLabels(op int, many, one []api.Label, m api.Match, flag bool) []api.Label {
	values := map[string]string{}
	for _, x := range many {
		switch {
		case x.Name == "__name__" && (op <= 6 || flag):
		case m.Card == 0 && m.On != slices.Contains(m.Labels, x.Name):
		default:
			values[x.Name] = x.Value
		}
	}
	for _, name := range m.Include {
		delete(values, name)
		if v := labels.Get(one, name); v != "" {
			values[name] = v
		}
	}
	var out []api.Label
	for name, v := range values {
		out = append(out, api.Label{Name: name, Value: v})
	}
	sort.Slice(out, func(i, j int) bool { return out[i].Name < out[j].Name })
	return out
}

// modelBinary: by the words, each point being held against each other one.
func modelBinary(op int, l, r []api.Point, m api.Match, flag bool) ([]api.Point, api.Errno) {
	if e := modelFault(op, m); e != api.OK {
		return nil, e
	}
	l, e := modelVector(l)
	if e != api.OK {
		return nil, e
	}
	r, e = modelVector(r)
	if e != api.OK {
		return nil, e
	}
	if op >= 13 {
		return modelVector(modelSets(op, l, r, m))
	}
	many, one := l, r
	if m.Card == 2 {
		many, one = r, l
	}
	for i := range one {
		for j := range i {
			if sameSet(modelSignature(one[i].Labels, m), modelSignature(one[j].Labels, m)) {
				return nil, api.ErrMany
			}
		}
	}
	var out []api.Point
	var seen [][]api.Label
	for _, p := range many {
		for _, q := range one {
			signature := modelSignature(p.Labels, m)
			if !sameSet(signature, modelSignature(q.Labels, m)) {
				continue
			}
			a, b := p.V, q.V
			if m.Card == 2 {
				a, b = q.V, p.V
			}
			v, e := modelArith(op, a, b)
			if e != api.OK {
				holds, _ := modelHolds(op, a, b)
				if !flag && !holds {
					continue
				}
				v = a
				if flag {
					v = map[bool]float64{true: 1}[holds]
				}
			}
			if m.Card == 0 && slices.ContainsFunc(seen, func(x []api.Label) bool { return sameSet(x, signature) }) {
				return nil, api.ErrMany
			}
			seen = append(seen, signature)
			out = append(out, api.Point{Labels: modelLabels(op, p.Labels, q.Labels, m, flag), V: v})
		}
	}
	return modelVector(out)
}

// someValues come again and again, so that comparisons hold and do not.
var someValues = []float64{0, 1, 2, 3, -1, 0.5, minusZero, inf, -inf, stale, nan, otherNaN, 1e300, 5e-324}

// somePoints answers points of few labels and values, in any order; now and then with a fault.
func somePoints(r *rand.Rand) []api.Point {
	var l []api.Point
	for range r.Intn(7) {
		p := api.Point{V: someValues[r.Intn(len(someValues))]}
		for _, name := range []string{"__name__", "a", "b", "c"} {
			if v := r.Intn(4); v < 2 {
				p.Labels = append(p.Labels, api.Label{Name: name, Value: strconv.Itoa(v)})
			}
		}
		if r.Intn(60) == 0 {
			p.Labels = append(p.Labels, api.Label{Name: "a", Value: ""})
		}
		if !slices.ContainsFunc(l, func(q api.Point) bool { return sameSet(p.Labels, q.Labels) }) || r.Intn(20) == 0 {
			l = append(l, p)
		}
	}
	return l
}

func someNames(r *rand.Rand, most int) []string {
	var l []string
	for range r.Intn(most + 1) {
		l = append(l, []string{"a", "b", "c", "__name__", "x"}[r.Intn(5)])
	}
	if r.Intn(60) == 0 {
		l = append(l, []string{"", "1", "a:b", "é"}[r.Intn(4)])
	}
	return l
}

// someMatch answers a Match that mostly can stand with op.
func someMatch(r *rand.Rand, op int) api.Match {
	m := api.Match{Card: r.Intn(3), On: r.Intn(2) == 0, Labels: someNames(r, 3)}
	if op >= 13 {
		m.Card = 3
	}
	if r.Intn(40) == 0 {
		m.Card = r.Intn(6) - 1
	}
	if m.Card == 1 || m.Card == 2 || r.Intn(40) == 0 {
		m.Include = someNames(r, 2)
	}
	return m
}

// check holds an answer against what is asked for.
func check(t testing.TB, what string, got []api.Point, ge api.Errno, want []api.Point, e api.Errno) {
	t.Helper()
	if ge != e || !sameList(got, want) || e != api.OK && got != nil {
		t.Fatalf("%s: %s %d, not %s %d", what, show(got), ge, show(want), e)
	}
}

func checkBinary(t testing.TB, op int, l, r []api.Point, m api.Match, flag bool) {
	t.Helper()
	want, e := modelBinary(op, l, r, m, flag)
	got, ge := Binary(op, l, r, m, flag)
	check(t, "Binary "+strconv.Itoa(op)+" "+strconv.FormatBool(flag)+" "+strconv.Itoa(m.Card)+strconv.FormatBool(m.On)+strings.Join(m.Labels, ",")+"|"+strings.Join(m.Include, ",")+": "+show(l)+" and "+show(r), got, ge, want, e)
}

func checkEach(t testing.TB, op int, x float64, l []api.Point, flag bool) {
	t.Helper()
	what := " " + strconv.Itoa(op) + " " + strconv.FormatFloat(x, 'g', -1, 64) + " " + strconv.FormatBool(flag) + ": " + show(l)
	want, e := modelEach(op, x, l, flag, true)
	got, ge := Left(op, x, l, flag)
	check(t, "Left"+what, got, ge, want, e)
	want, e = modelEach(op, x, l, flag, false)
	got, ge = Right(op, l, x, flag)
	check(t, "Right"+what, got, ge, want, e)
}

func checkVector(t testing.TB, l []api.Point) {
	t.Helper()
	want, e := modelVector(l)
	got, ge := Vector(l)
	check(t, "Vector "+show(l), got, ge, want, e)
	want, e = modelNeg(l)
	got, ge = Neg(l)
	check(t, "Neg "+show(l), got, ge, want, e)
}
