package dispatch

import (
	"cmp"
	"fmt"
	"math"
	"math/rand"
	"slices"
	"strings"
	"testing"

	"tocsin/api"
	"tocsin/labels"
	"tocsin/route"
)

const (
	maxTime = int64(1) << 50
	maxSpan = int64(1) << 40
	maxAt   = maxTime + maxSpan // the last time at which an alert may begin, or end
)

// of answers the labels of names and values, as they stand.
func of(words ...string) []api.Label {
	var l []api.Label
	for i := 0; i < len(words); i += 2 {
		l = append(l, api.Label{Name: words[i], Value: words[i+1]})
	}
	return l
}

// many answers n labels, rising.
func many(n int) []api.Label {
	var l []api.Label
	for i := range n {
		l = append(l, api.Label{Name: fmt.Sprintf("l%03d", i), Value: "v"})
	}
	return l
}

// alert answers the alert {job=job,n=n}.
func alert(job, n string, start, end int64) api.Alert {
	return api.Alert{Labels: of("job", job, "n", n), Start: start, End: end}
}

// wrongSets are lists that are no right label set.
func wrongSets() [][]api.Label {
	return [][]api.Label{many(17), of("1", "a"), of("", "a"), of("a:b", "1"), of(strings.Repeat("n", 65), "1"), of("a", ""), of("a", strings.Repeat("v", 257)), of("a", "\xff"), of("b", "1", "a", "1"), of("a", "1", "a", "1"), of("a", "1", "b", "")}
}

// root answers a first route.
func root(wait, interval int64, by ...string) api.Route {
	return api.Route{Parent: -1, Receiver: "team", By: by, Wait: wait, Interval: interval, Repeat: 100}
}

// child answers a route of the first one, of what has that label; others are asked behind it.
func child(name, value string, wait, interval int64, by ...string) api.Route {
	r := root(wait, interval, by...)
	r.Parent, r.Continue = 0, true
	r.Matchers = []api.Matcher{{Op: api.MEq, Name: name, Value: value}}
	return r
}

// byJob answers the routes of the chapter's example.
func byJob() []api.Route { return []api.Route{root(10, 60, "job")} }

// three answers routes of which 1 is told of n="1", 2 of job="a", both of what has both, and 0 of all else.
func three() []api.Route {
	return []api.Route{root(10, 60), child("n", "1", 0, 30, "n"), child("job", "a", 20, 50, "job")}
}

func copyAlerts(l []api.Alert) []api.Alert {
	out := slices.Clone(l)
	for i := range out {
		out[i].Labels = slices.Clone(out[i].Labels)
	}
	return out
}

func sameAlert(a, b api.Alert) bool {
	return slices.Equal(a.Labels, b.Labels) && a.Start == b.Start && a.End == b.End
}

func sameAlerts(a, b []api.Alert) bool { return slices.EqualFunc(a, b, sameAlert) }

func sameGroup(a, b Group) bool {
	return a.Route == b.Route && a.Key == b.Key && a.Next == b.Next && sameAlerts(a.Alerts, b.Alerts)
}

func sameGroups(a, b []Group) bool { return slices.EqualFunc(a, b, sameGroup) }

func sameFlushes(a, b []api.Flush) bool {
	return slices.EqualFunc(a, b, func(x, y api.Flush) bool {
		return x.Route == y.Route && x.Key == y.Key && sameAlerts(x.Alerts, y.Alerts)
	})
}

// compareSets: the page's order of label sets.
func compareSets(a, b []api.Label) int {
	return slices.CompareFunc(a, b, func(x, y api.Label) int {
		return cmp.Or(strings.Compare(x.Name, y.Name), strings.Compare(x.Value, y.Value))
	})
}

// boardModel goes by the words of the chapter, over a list of groups in no order.
type boardModel struct {
	routes []api.Route
	groups []Group
}

func isTimeModel(t int64) bool { return t >= 0 && t <= maxTime }

func (m *boardModel) put(now int64, a api.Alert) (int, api.Errno) {
	if !isTimeModel(now) {
		return 0, api.ErrArg
	}
	if e, _ := labels.Right(a.Labels); e != api.OK || len(a.Labels) == 0 {
		return 0, api.ErrLabel
	}
	if a.End < a.Start || a.Start < 0 || a.Start > maxAt || a.End < 0 || a.End > maxAt {
		return 0, api.ErrArg
	}
	told, _ := route.Match(m.routes, a.Labels)
	have := 0
	for _, i := range told {
		key, _ := route.Key(m.routes, i, a.Labels)
		at := slices.IndexFunc(m.groups, func(g Group) bool { return g.Route == i && g.Key == key })
		if at >= 0 {
			g := &m.groups[at]
			g.Alerts = slices.DeleteFunc(g.Alerts, func(b api.Alert) bool { return slices.Equal(a.Labels, b.Labels) })
			g.Alerts = append(g.Alerts, copyAlerts([]api.Alert{a})...)
			have++
			continue
		}
		if a.End <= now {
			continue
		}
		next := now + m.routes[i].Wait
		if a.Start+m.routes[i].Wait < now {
			next = now
		}
		m.groups = append(m.groups, Group{Route: i, Key: key, Alerts: copyAlerts([]api.Alert{a}), Next: next})
		have++
	}
	return have, api.OK
}

func (m *boardModel) due(now int64) ([]api.Flush, api.Errno) {
	if !isTimeModel(now) {
		return nil, api.ErrArg
	}
	m.sort(func(a, b Group) int { return cmp.Compare(a.Next, b.Next) })
	var out []api.Flush
	var stay []Group
	for _, g := range m.groups {
		if g.Next <= now {
			out = append(out, api.Flush{Route: g.Route, Key: g.Key, Alerts: copyAlerts(g.Alerts)})
			g.Next = now + m.routes[g.Route].Interval
			g.Alerts = slices.DeleteFunc(g.Alerts, func(a api.Alert) bool { return a.End <= now })
		}
		if len(g.Alerts) > 0 {
			stay = append(stay, g)
		}
	}
	m.groups = stay
	return out, api.OK
}

// sort lays the groups in order: by what is said first, then by route, then by key; their alerts by their labels.
func (m *boardModel) sort(first func(a, b Group) int) {
	for _, g := range m.groups {
		slices.SortFunc(g.Alerts, func(a, b api.Alert) int { return compareSets(a.Labels, b.Labels) })
	}
	slices.SortFunc(m.groups, func(a, b Group) int {
		return cmp.Or(first(a, b), cmp.Compare(a.Route, b.Route), strings.Compare(a.Key, b.Key))
	})
}

// all answers the groups by route, then key.
func (m *boardModel) all() []Group {
	m.sort(func(Group, Group) int { return 0 })
	return m.groups
}

func (m *boardModel) next() (int64, api.Errno) {
	if len(m.groups) == 0 {
		return 0, api.ErrNone
	}
	least := int64(math.MaxInt64)
	for _, g := range m.groups {
		least = min(least, g.Next)
	}
	return least, api.OK
}

// both is a board and its model, to which the same is done.
type both struct {
	t *testing.T
	b *Board
	m *boardModel
}

func newBoth(t *testing.T, l []api.Route) both {
	t.Helper()
	b, e, at := New(l)
	if b == nil || e != api.OK || at != 0 {
		t.Fatal("New", l, e, at)
	}
	return both{t, b, &boardModel{routes: l}}
}

// tells holds all that the board tells, and changes nothing, against the model.
func (x both) tells() bool {
	x.t.Helper()
	want := x.m.all()
	got := slices.Collect(x.b.All())
	next, e := x.b.Next()
	wantNext, wantE := x.m.next()
	if !sameGroups(got, want) || x.b.Len() != len(want) || next != wantNext || e != wantE {
		x.t.Errorf("All %v, Len %d, Next %d, %d; want %v, Next %d, %d", got, x.b.Len(), next, e, want, wantNext, wantE)
		return false
	}
	return true
}

func (x both) put(now int64, a api.Alert) (int, api.Errno) {
	x.t.Helper()
	before := copyAlerts([]api.Alert{a})
	n, e := x.b.Put(now, a)
	if want, wantE := x.m.put(now, a); n != want || e != wantE {
		x.t.Errorf("Put(%d, %v) = %d, %d; want %d, %d", now, a, n, e, want, wantE)
	}
	if !sameAlerts([]api.Alert{a}, before) {
		x.t.Error("changed", a)
	}
	x.tells()
	return n, e
}

func (x both) due(now int64) []api.Flush {
	x.t.Helper()
	got, e := x.b.Due(now)
	want, wantE := x.m.due(now)
	if !sameFlushes(got, want) || e != wantE {
		x.t.Errorf("Due(%d) = %v, %d; want %v, %d", now, got, e, want, wantE)
	}
	x.tells()
	return got
}

// source answers random things.
type source struct{ *rand.Rand }

func newSource(seed int64) source { return source{rand.New(rand.NewSource(seed))} }

// set answers one of few label sets.
func (s source) set() []api.Label {
	var l []api.Label
	for _, name := range []string{"a", "b", "c"} {
		if n := s.Intn(3); n > 0 || name == "c" {
			l = append(l, api.Label{Name: name, Value: fmt.Sprint(n)})
		}
	}
	return l
}

// routes answers some routes with few waits and intervals.
func (s source) routes() []api.Route {
	var l []api.Route
	for i := range 1 + s.Intn(6) {
		r := root(int64(s.Intn(4)*s.Intn(10)), int64(1+s.Intn(40)))
		if i > 0 {
			r.Parent, r.Continue = s.Intn(i), s.Intn(2) == 0
			r.Matchers = []api.Matcher{{Op: 1 + s.Intn(2), Name: string(rune('a' + s.Intn(3))), Value: fmt.Sprint(s.Intn(3))}}
		}
		r.All = s.Intn(5) == 0
		for _, name := range []string{"c", "a", "b"} {
			if !r.All && s.Intn(3) == 0 {
				r.By = append(r.By, name)
			}
		}
		l = append(l, r)
	}
	return l
}

// alert answers an alert about now; seldom it is at fault.
func (s source) alert(now int64) api.Alert {
	a := api.Alert{Labels: s.set(), Start: max(0, now+int64(s.Intn(60))-45)}
	a.End = a.Start + int64(s.Intn(80))
	switch s.Intn(40) {
	case 0:
		wrong := append(wrongSets(), nil)
		a.Labels = wrong[s.Intn(len(wrong))]
	case 1:
		a.Start = a.End + 1
	case 2:
		edges := []int64{-1, 0, maxTime, maxAt, maxAt + 1}
		a.End = edges[s.Intn(len(edges))]
	case 3:
		a.Start = -1
	}
	return a
}
