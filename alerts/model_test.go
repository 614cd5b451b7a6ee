package alerts

import (
	"cmp"
	"fmt"
	"math/rand"
	"slices"
	"sort"
	"strings"
	"testing"

	"tocsin/api"
	"tocsin/labels"
)

const (
	maxTime = int64(1) << 50
	maxSpan = int64(1) << 40
	maxAt   = maxTime + maxSpan // the last time at which an alert may begin, or end
)

// of answers the labels of names and values, as they stand.
func of(words ...string) []api.Label {
	var l []api.Label
	for i := 0; i < len(words); i += 2 {
		l = append(l, api.Label{Name: words[i], Value: words[i+1]})
	}
	return l
}

// many answers n labels, rising.
func many(n int) []api.Label {
	var l []api.Label
	for i := range n {
		l = append(l, api.Label{Name: fmt.Sprintf("l%03d", i), Value: "v"})
	}
	return l
}

// alert answers the alert {a=value}.
func alert(value string, start, end int64) api.Alert {
	return api.Alert{Labels: of("a", value), Start: start, End: end}
}

// wrongSets are lists that are no right label set.
func wrongSets() [][]api.Label {
	return [][]api.Label{many(17), of("1", "a"), of("", "a"), of("a:b", "1"), of(strings.Repeat("n", 65), "1"), of("a", ""), of("a", strings.Repeat("v", 257)), of("a", "\xff"), of("b", "1", "a", "1"), of("a", "1", "a", "1"), of("a", "1", "b", "")}
}

func copyAlerts(l []api.Alert) []api.Alert {
	out := slices.Clone(l)
	for i := range out {
		out[i].Labels = slices.Clone(out[i].Labels)
	}
	return out
}

func sameAlert(a, b api.Alert) bool {
	return slices.Equal(a.Labels, b.Labels) && a.Start == b.Start && a.End == b.End
}

func sameAlerts(a, b []api.Alert) bool { return slices.EqualFunc(a, b, sameAlert) }

// ahead: the page's order of label sets.
func ahead(a, b []api.Label) bool {
	return slices.CompareFunc(a, b, func(x, y api.Label) int {
		return cmp.Or(strings.Compare(x.Name, y.Name), strings.Compare(x.Value, y.Value))
	}) < 0
}

// setModel goes by the words of the chapter, over a list that rises.
type setModel struct {
	resolve int64
	most    int
	list    []api.Alert
}

func (m *setModel) find(l []api.Label) int {
	return slices.IndexFunc(m.list, func(a api.Alert) bool { return slices.Equal(a.Labels, l) })
}

func (m *setModel) put(now int64, a api.Alert) api.Errno {
	if now < 0 || now > maxTime {
		return api.ErrArg
	}
	if e, _ := labels.Right(a.Labels); e != api.OK || len(a.Labels) == 0 {
		return api.ErrLabel
	}
	if a.Start < 0 || a.Start > maxAt || a.End < 0 || a.End > maxAt {
		return api.ErrArg
	}
	if a.End != 0 && a.End < a.Start {
		return api.ErrArg
	}
	if a.End == 0 {
		a.End = now + m.resolve
	}
	if a.Start == 0 {
		a.Start = now
	}
	if a.End < a.Start {
		return api.ErrArg
	}
	a.Labels = slices.Clone(a.Labels)
	at := m.find(a.Labels)
	if at < 0 {
		if len(m.list) == m.most {
			return api.ErrFull
		}
		m.list = append(m.list, a)
		sort.Slice(m.list, func(i, j int) bool { return ahead(m.list[i].Labels, m.list[j].Labels) })
		return api.OK
	}
	if m.list[at].End > now {
		if a.Start < m.list[at].Start {
			m.list[at].Start = a.Start
		}
		m.list[at].End = a.End
	} else {
		m.list[at] = a
	}
	return api.OK
}

func (m *setModel) sweep(now, keep int64) (int, api.Errno) {
	if now < 0 || now > maxTime || keep < 0 || keep > maxSpan {
		return 0, api.ErrArg
	}
	var stay []api.Alert
	for _, a := range m.list {
		if a.End > now-keep {
			stay = append(stay, a)
		}
	}
	gone := len(m.list) - len(stay)
	m.list = stay
	return gone, api.OK
}

func (m *setModel) firing(now int64) []api.Alert {
	var out []api.Alert
	for _, a := range m.list {
		if a.Start <= now && now < a.End {
			out = append(out, a)
		}
	}
	return out
}

// tells holds all that a set tells against what it must have.
func tells(t *testing.T, s *Set, want []api.Alert) bool {
	t.Helper()
	all := slices.Collect(s.All())
	if !sameAlerts(all, want) || s.Len() != len(want) {
		t.Errorf("All %v, Len %d; want %v", all, s.Len(), want)
		return false
	}
	for _, a := range want {
		if got, is := s.Get(a.Labels); !is || !sameAlert(got, a) {
			t.Errorf("Get %v, %v; want %v", got, is, a)
			return false
		}
	}
	return true
}

// source answers random things.
type source struct{ *rand.Rand }

func newSource(seed int64) source { return source{rand.New(rand.NewSource(seed))} }

// set answers one of few label sets; seldom it is none.
func (s source) set() []api.Label {
	switch s.Intn(30) {
	case 0:
		return nil
	case 1:
		wrong := wrongSets()
		return wrong[s.Intn(len(wrong))]
	}
	v := fmt.Sprint(s.Intn(4))
	switch s.Intn(4) {
	case 0:
		return of("b", v)
	case 1:
		return of("a", v, "b", "1")
	}
	return of("a", v)
}

// time answers a time about now, or 0, or, seldom, one that is near to a bound or beyond it.
func (s source) time(now int64) int64 {
	switch s.Intn(12) {
	case 0, 1, 2:
		return 0
	case 3:
		edges := []int64{-1, 0, 1, maxTime, maxTime + 1, maxAt, maxAt + 1}
		return edges[s.Intn(len(edges))]
	}
	return now + int64(s.Intn(60)) - 25
}
