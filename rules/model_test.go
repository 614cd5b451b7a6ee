package rules

import (
	"cmp"
	"fmt"
	"math"
	"math/rand"
	"slices"
	"sort"
	"strings"
	"testing"

	"tocsin/api"
	"tocsin/labels"
)

// of answers the labels of names and values, as they stand.
func of(words ...string) []api.Label {
	var l []api.Label
	for i := 0; i < len(words); i += 2 {
		l = append(l, api.Label{Name: words[i], Value: words[i+1]})
	}
	return l
}

// many answers n labels, rising.
func many(n int) []api.Label {
	var l []api.Label
	for i := range n {
		l = append(l, api.Label{Name: fmt.Sprintf("l%03d", i), Value: "v"})
	}
	return l
}

func point(v float64, words ...string) api.Point {
	return api.Point{Labels: of(words...), V: v}
}

func copyPoints(l []api.Point) []api.Point {
	out := slices.Clone(l)
	for i := range out {
		out[i].Labels = slices.Clone(out[i].Labels)
	}
	return out
}

func copyActive(l []api.Active) []api.Active {
	out := slices.Clone(l)
	for i := range out {
		out[i].Labels = slices.Clone(out[i].Labels)
	}
	return out
}

func samePoints(a, b []api.Point) bool {
	return slices.EqualFunc(a, b, func(x, y api.Point) bool {
		return slices.Equal(x.Labels, y.Labels) && math.Float64bits(x.V) == math.Float64bits(y.V)
	})
}

func sameActive(a, b []api.Active) bool {
	return slices.EqualFunc(a, b, func(x, y api.Active) bool {
		return slices.Equal(x.Labels, y.Labels) && x.State == y.State && x.Since == y.Since && x.Fired == y.Fired && x.Gone == y.Gone && math.Float64bits(x.V) == math.Float64bits(y.V)
	})
}

func sameSets(a, b [][]api.Label) bool {
	return slices.EqualFunc(a, b, func(x, y []api.Label) bool { return slices.Equal(x, y) })
}

// wrongSets are lists that are no right label set.
func wrongSets() [][]api.Label {
	return [][]api.Label{many(17), of("1", "a"), of("", "a"), of("a:b", "1"), of("a", ""), of("a", strings.Repeat("v", 257)), of("a", "\xff"), of("b", "1", "a", "1"), of("a", "1", "a", "1"), of("a", "1", "b", "")}
}

// ruleModel: is r right, by the words of the chapter?
func ruleModel(r api.Rule) bool {
	if r.Record {
		if len(r.Name) < 1 || len(r.Name) > 64 {
			return false
		}
		for i, c := range []byte(r.Name) {
			letter := c >= 'a' && c <= 'z' || c >= 'A' && c <= 'Z' || c == '_' || c == ':'
			if !letter && !(i > 0 && c >= '0' && c <= '9') {
				return false
			}
		}
		if r.For != 0 || r.Keep != 0 {
			return false
		}
	} else {
		if len(r.Name) < 1 || len(r.Name) > 256 || strings.ToValidUTF8(r.Name, "") != r.Name {
			return false
		}
		if r.For < 0 || r.For > 1<<40 || r.Keep < 0 || r.Keep > 1<<40 {
			return false
		}
	}
	if e, _ := labels.Right(r.Labels); e != api.OK || len(r.Expr) > 65536 {
		return false
	}
	for _, l := range r.Labels {
		if l.Name == "__name__" || l.Name == "alertname" {
			return false
		}
	}
	return true
}

// namedModel: labels with those of more in their place.
func namedModel(l []api.Label, drop string, more ...api.Label) ([]api.Label, api.Errno) {
	if e, _ := labels.Right(l); e != api.OK {
		return nil, api.ErrLabel
	}
	values := map[string]string{}
	for _, x := range l {
		if x.Name != drop {
			values[x.Name] = x.Value
		}
	}
	for _, x := range more {
		values[x.Name] = x.Value
	}
	var out []api.Label
	for name, value := range values {
		out = append(out, api.Label{Name: name, Value: value})
	}
	if len(out) > 16 {
		return nil, api.ErrFull
	}
	sort.Slice(out, func(i, j int) bool { return out[i].Name < out[j].Name })
	return out, api.OK
}

func labelsModel(r api.Rule, l []api.Label) ([]api.Label, api.Errno) {
	if !ruleModel(r) {
		return nil, api.ErrRule
	}
	return namedModel(l, "__name__", append(slices.Clone(r.Labels), api.Label{Name: "alertname", Value: r.Name})...)
}

// pointsModel: the points under the names that name gives them, rising.
func pointsModel(v []api.Point, name func([]api.Label) ([]api.Label, api.Errno)) ([]api.Point, api.Errno) {
	var out []api.Point
	for _, p := range v {
		set, e := name(p.Labels)
		if e != api.OK {
			return nil, e
		}
		out = append(out, api.Point{Labels: set, V: p.V})
	}
	for i := range out {
		for j := range i {
			if slices.Equal(out[i].Labels, out[j].Labels) {
				return nil, api.ErrMany
			}
		}
	}
	sort.Slice(out, func(i, j int) bool { return ahead(out[i].Labels, out[j].Labels) })
	return out, api.OK
}

func recordModel(r api.Rule, v []api.Point) ([]api.Point, api.Errno) {
	if !ruleModel(r) || !r.Record {
		return nil, api.ErrRule
	}
	return pointsModel(v, func(l []api.Label) ([]api.Label, api.Errno) {
		return namedModel(l, "", append(slices.Clone(r.Labels), api.Label{Name: "__name__", Value: r.Name})...)
	})
}

// ahead: the page's order of label sets.
func ahead(a, b []api.Label) bool {
	return slices.CompareFunc(a, b, func(x, y api.Label) int {
		return cmp.Or(strings.Compare(x.Name, y.Name), strings.Compare(x.Value, y.Value))
	}) < 0
}

// keeperModel goes by the words of P19.3, over a list.
type keeperModel struct {
	rule api.Rule
	list []api.Active
	last int64
}

func (k *keeperModel) step(now int64, v []api.Point) ([]api.Active, [][]api.Label, api.Errno) {
	if now < 0 || now > 1<<50 || now <= k.last {
		return nil, nil, api.ErrArg
	}
	points, e := pointsModel(v, func(l []api.Label) ([]api.Label, api.Errno) { return labelsModel(k.rule, l) })
	if e != api.OK {
		return nil, nil, e
	}
	k.last = now
	for _, p := range points {
		at := slices.IndexFunc(k.list, func(a api.Active) bool { return slices.Equal(a.Labels, p.Labels) })
		if at < 0 {
			at = len(k.list)
			k.list = append(k.list, api.Active{Labels: p.Labels, State: api.SPending, Since: now, Fired: -1, Gone: -1})
		}
		k.list[at].Gone = -1
		k.list[at].V = p.V
		if k.list[at].State == api.SPending && now-k.list[at].Since >= k.rule.For {
			k.list[at].State = api.SFiring
			k.list[at].Fired = now
		}
	}
	var stay []api.Active
	var gone [][]api.Label
	for _, a := range k.list {
		is := slices.ContainsFunc(points, func(p api.Point) bool { return slices.Equal(a.Labels, p.Labels) })
		if is {
			stay = append(stay, a)
			continue
		}
		if a.State == api.SPending {
			continue
		}
		if a.Gone == -1 {
			a.Gone = now
		}
		if now-a.Gone >= k.rule.Keep {
			gone = append(gone, a.Labels)
		} else {
			stay = append(stay, a)
		}
	}
	sort.Slice(stay, func(i, j int) bool { return ahead(stay[i].Labels, stay[j].Labels) })
	sort.Slice(gone, func(i, j int) bool { return ahead(gone[i], gone[j]) })
	k.list = stay
	return stay, gone, api.OK
}

// source answers random things.
type source struct{ *rand.Rand }

func newSource(seed int64) source { return source{rand.New(rand.NewSource(seed))} }

// points answers up to n points of few label sets, seldom two of one, in any order.
func (s source) points(n int) []api.Point {
	var l []api.Point
	for range s.Intn(n + 1) {
		p := api.Point{V: float64(s.Intn(5))}
		switch s.Intn(4) {
		case 0:
			p.Labels = of("a", fmt.Sprint(s.Intn(9)))
		case 1:
			p.Labels = of("__name__", "m", "a", fmt.Sprint(s.Intn(9)), "b", "x")
		case 2:
			p.Labels = of("b", fmt.Sprint(s.Intn(9)))
		default:
			p.Labels = of("a", fmt.Sprint(s.Intn(9)), "severity", "low")
		}
		if !slices.ContainsFunc(l, func(q api.Point) bool { return slices.Equal(p.Labels, q.Labels) }) || s.Intn(40) == 0 {
			l = append(l, p)
		}
	}
	return l
}

// rule answers a right rule of an alert.
func (s source) rule() api.Rule {
	r := api.Rule{Name: "Down", Expr: "up == 0", For: int64(s.Intn(3) * s.Intn(20)), Keep: int64(s.Intn(3) * s.Intn(20))}
	if s.Intn(2) == 0 {
		r.Labels = of("severity", "critical")
	}
	return r
}

// checkStep holds a step against the model's.
func checkStep(t *testing.T, k *Keeper, m *keeperModel, now int64, v []api.Point) bool {
	t.Helper()
	before := copyPoints(v)
	list, gone, e := k.Step(now, v)
	wantList, wantGone, want := m.step(now, v)
	if e != want || !sameActive(list, wantList) || !sameSets(gone, wantGone) {
		t.Errorf("%+v: Step(%d, %v) = %v, %v, %d; want %v, %v, %d", m.rule, now, v, list, gone, e, wantList, wantGone, want)
		return false
	}
	if !samePoints(v, before) {
		t.Error("Step changed", before, v)
	}
	if !sameActive(k.Active(), m.list) || k.Last() != m.last {
		t.Errorf("Active %v, Last %d; want %v, %d", k.Active(), k.Last(), m.list, m.last)
		return false
	}
	return true
}
