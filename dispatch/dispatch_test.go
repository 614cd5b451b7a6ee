package dispatch

import (
	"encoding/binary"
	"fmt"
	"math"
	"slices"
	"strings"
	"testing"

	"tocsin/api"
	"tocsin/route"
)

func TestExamples(t *testing.T) {
	x := newBoth(t, byJob())
	first, second := alert("a", "1", 0, 100), alert("a", "2", 5, 100)
	if n, e := x.put(0, first); n != 1 || e != api.OK {
		t.Error(n, e)
	}
	if n, e := x.put(5, second); n != 1 || e != api.OK {
		t.Error(n, e)
	}
	if next, e := x.b.Next(); x.b.Len() != 1 || next != 10 || e != api.OK {
		t.Error(x.b.Len(), next, e)
	}
	if l := x.due(9); len(l) != 0 {
		t.Error(l)
	}
	want := []api.Flush{{Route: 0, Key: `0/{job="a"}`, Alerts: []api.Alert{first, second}}}
	if l := x.due(10); !sameFlushes(l, want) {
		t.Error(l)
	}
	if next, e := x.b.Next(); next != 70 || e != api.OK {
		t.Error(next, e)
	}
}

func TestNilBoard(t *testing.T) {
	var b *Board
	for _, now := range []int64{-1, 0, 10, maxTime + 1} {
		for _, a := range []api.Alert{alert("a", "1", 0, 100), {}, {Labels: of("a", ""), Start: -1}} {
			if n, e := b.Put(now, a); n != 0 || e != api.ErrNil {
				t.Error(n, e)
			}
		}
		if l, e := b.Due(now); l != nil || e != api.ErrNil {
			t.Error(l, e)
		}
	}
	if n, e := b.Next(); n != 0 || e != api.ErrNil {
		t.Error(n, e)
	}
	for g := range b.All() {
		t.Error(g)
	}
	if b.Len() != 0 {
		t.Error(b.Len())
	}
}

// TestP1_ZeroBoard: a board that nobody made has no groups, and does not panic.
func TestP1_ZeroBoard(t *testing.T) {
	var b Board
	b.Put(5, alert("a", "1", 0, 100))
	if l, e := b.Due(5); len(l) != 0 || e != api.OK {
		t.Error(l, e)
	}
	if n, e := b.Next(); n != 0 || e != api.ErrNone {
		t.Error(n, e)
	}
	for g := range b.All() {
		t.Error(g)
	}
	if b.Len() != 0 {
		t.Error(b.Len())
	}
}

func TestP25_1_New(t *testing.T) {
	changed := func(number int, do func(r *api.Route)) []api.Route {
		l := three()
		do(&l[number])
		return l
	}
	for i, c := range []struct {
		l  []api.Route
		e  api.Errno
		at int
	}{
		{three(), api.OK, 0},
		{byJob(), api.OK, 0},
		{slices.Concat(three(), slices.Repeat(three()[1:2], 61)), api.OK, 0},
		{nil, api.ErrRoute, 0},
		{[]api.Route{}, api.ErrRoute, 0},
		{slices.Concat(three(), slices.Repeat(three()[1:2], 62)), api.ErrFull, 0},
		{make([]api.Route, 65), api.ErrFull, 0},
		{make([]api.Route, 1), api.ErrRoute, 0},
		{changed(0, func(r *api.Route) { r.Parent = 0 }), api.ErrRoute, 0},
		{changed(0, func(r *api.Route) { r.Matchers = three()[1].Matchers }), api.ErrRoute, 0},
		{changed(0, func(r *api.Route) { r.Continue = true }), api.ErrRoute, 0},
		{changed(1, func(r *api.Route) { r.Parent = -1 }), api.ErrRoute, 1},
		{changed(1, func(r *api.Route) { r.Parent = 1 }), api.ErrRoute, 1},
		{changed(2, func(r *api.Route) { r.Matchers[0].Op = 0 }), api.ErrRoute, 2},
		{changed(2, func(r *api.Route) { r.By = []string{"a", "a"} }), api.ErrRoute, 2},
		{changed(2, func(r *api.Route) { r.All = true }), api.ErrRoute, 2},
		{changed(1, func(r *api.Route) { r.Wait = -1 }), api.ErrRoute, 1},
		{changed(1, func(r *api.Route) { r.Wait = maxSpan + 1 }), api.ErrRoute, 1},
		{changed(1, func(r *api.Route) { r.Interval = 0 }), api.ErrRoute, 1},
		{changed(1, func(r *api.Route) { r.Interval = maxSpan + 1 }), api.ErrRoute, 1},
		{changed(1, func(r *api.Route) { r.Repeat = 0 }), api.ErrRoute, 1},
		{changed(0, func(r *api.Route) { r.Receiver = "" }), api.ErrRoute, 0},
		{changed(2, func(r *api.Route) { r.Receiver = strings.Repeat("r", 65) }), api.ErrRoute, 2},
	} {
		b, e, at := New(c.l)
		if e != c.e || at != c.at || (b != nil) != (c.e == api.OK) {
			t.Error(i, b, e, at)
		}
		if right, number := route.Right(c.l); e != right || at != number {
			t.Error(i, "route.Right says", right, number)
		}
		if b.Len() != 0 || len(slices.Collect(b.All())) != 0 {
			t.Error(i, b.Len())
		}
		if n, e := b.Next(); b != nil && (n != 0 || e != api.ErrNone) {
			t.Error(i, n, e)
		}
	}
}

// refused is a Put and its error.
type refused struct {
	now int64
	a   api.Alert
	e   api.Errno
}

func TestP25_1_PutRefused(t *testing.T) {
	in := func(start, end int64) api.Alert { return alert("a", "1", start, end) }
	l := []refused{
		{-1, in(0, 100), api.ErrArg},
		{math.MinInt64, in(0, 100), api.ErrArg},
		{maxTime + 1, in(0, maxAt), api.ErrArg},
		{math.MaxInt64, in(0, maxAt), api.ErrArg},
		{20, api.Alert{End: 100}, api.ErrLabel},
		{20, api.Alert{Labels: []api.Label{}, End: 100}, api.ErrLabel},
		{20, in(50, 49), api.ErrArg},
		{20, in(1, 0), api.ErrArg},
		{20, in(maxAt, 0), api.ErrArg},
		{20, in(-1, 100), api.ErrArg},
		{20, in(-1, -1), api.ErrArg},
		{20, in(math.MinInt64, 100), api.ErrArg},
		{20, in(0, -1), api.ErrArg},
		{20, in(0, maxAt+1), api.ErrArg},
		{20, in(maxAt+1, maxAt+1), api.ErrArg},
		{20, in(math.MaxInt64, math.MaxInt64), api.ErrArg},
		{20, in(math.MinInt64, math.MaxInt64), api.ErrArg},
	}
	for _, set := range wrongSets() {
		l = append(l, refused{20, api.Alert{Labels: set, End: 100}, api.ErrLabel})
		// Two faults at once: the one that is named first.
		l = append(l, refused{-1, api.Alert{Labels: set, End: 100}, api.ErrArg})
		l = append(l, refused{20, api.Alert{Labels: set, Start: 101, End: 100}, api.ErrLabel})
		l = append(l, refused{20, api.Alert{Labels: set, Start: -1, End: 100}, api.ErrLabel})
		l = append(l, refused{20, api.Alert{Labels: set, End: maxAt + 1}, api.ErrLabel})
	}
	l = append(l, refused{maxTime + 1, api.Alert{}, api.ErrArg}, refused{20, api.Alert{Start: 1}, api.ErrLabel}, refused{-1, in(2, 1), api.ErrArg})
	x := newBoth(t, three())
	for range 2 { // of a board without groups, and of one with some
		for _, c := range l {
			want := slices.Collect(x.b.All())
			if n, e := x.put(c.now, c.a); n != 0 || e != c.e {
				t.Errorf("Put(%d, %v) = %d, %d; want %d", c.now, c.a, n, e, c.e)
			}
			if got := slices.Collect(x.b.All()); !sameGroups(got, want) {
				t.Error(got)
			}
		}
		x.put(0, in(0, 100))
		x.put(0, alert("b", "2", 0, 100))
	}
}

func TestP25_1_Bounds(t *testing.T) {
	for _, c := range []struct{ now, start, end, next int64 }{
		{0, 0, 1, 10},
		{0, 0, maxAt, 10},
		{0, maxAt, maxAt, 10},
		{0, maxTime, maxAt, 10},
		{maxTime, 0, maxAt, maxTime},
		{maxTime, maxAt, maxAt, maxTime + 10},
		{maxTime, maxTime - 10, maxTime + 1, maxTime + 10},
		{maxTime, maxTime - 11, maxTime + 1, maxTime},
	} {
		x := newBoth(t, byJob())
		if n, e := x.put(c.now, alert("a", "1", c.start, c.end)); n != 1 || e != api.OK {
			t.Error(c, n, e)
		}
		if next, e := x.b.Next(); next != c.next || e != api.OK {
			t.Error(c, next, e)
		}
	}
	long := root(maxSpan, maxSpan, "job")
	x := newBoth(t, []api.Route{long})
	x.put(maxTime, alert("a", "1", maxTime, maxAt))
	if next, e := x.b.Next(); next != maxAt || e != api.OK {
		t.Error(next, e)
	}
	x = newBoth(t, []api.Route{long})
	x.put(maxTime, alert("a", "1", 0, maxAt))
	x.due(maxTime)
	if next, e := x.b.Next(); next != maxAt || e != api.OK {
		t.Error(next, e)
	}
}

// TestP25_1_Over: an alert that is over makes no group, but a group that is there has it.
func TestP25_1_Over(t *testing.T) {
	for _, c := range []struct {
		end  int64
		have int
	}{{0, 0}, {19, 0}, {20, 0}, {21, 1}, {100, 1}, {maxAt, 1}} {
		x := newBoth(t, byJob())
		if n, e := x.put(20, alert("a", "1", 0, c.end)); n != c.have || e != api.OK || x.b.Len() != c.have {
			t.Error(c, n, e, x.b.Len())
		}
		x = newBoth(t, byJob())
		x.put(20, alert("a", "2", 20, 100))
		if n, e := x.put(20, alert("a", "1", 0, c.end)); n != 1 || e != api.OK || x.b.Len() != 1 {
			t.Error(c, n, e, x.b.Len())
		}
		// Of another key there is no group.
		if n, e := x.put(20, alert("b", "1", 0, c.end)); n != c.have || e != api.OK || x.b.Len() != 1+c.have {
			t.Error(c, n, e, x.b.Len())
		}
		for g := range x.b.All() {
			if g.Key == `0/{job="a"}` && (len(g.Alerts) != 2 || !sameAlert(g.Alerts[0], alert("a", "1", 0, c.end))) {
				t.Error(g)
			}
		}
	}
}

// TestP25_1_Again: the same labels stand once, as they came last, and the next flush stays.
func TestP25_1_Again(t *testing.T) {
	for _, again := range []api.Alert{alert("a", "1", 0, 100), alert("a", "1", 0, 5), alert("a", "1", 0, 0), alert("a", "1", 15, 300), alert("a", "1", maxAt, maxAt)} {
		x := newBoth(t, byJob())
		x.put(5, alert("a", "0", 5, 100))
		x.put(5, alert("a", "1", 5, 100))
		x.put(5, alert("a", "2", 5, 100))
		if n, e := x.put(12, again); n != 1 || e != api.OK {
			t.Error(again, n, e)
		}
		want := []Group{{Route: 0, Key: `0/{job="a"}`, Alerts: []api.Alert{alert("a", "0", 5, 100), again, alert("a", "2", 5, 100)}, Next: 15}}
		if got := slices.Collect(x.b.All()); !sameGroups(got, want) {
			t.Error(got)
		}
	}
}

func TestP25_1_FirstFlush(t *testing.T) {
	for _, c := range []struct{ wait, now, start, next int64 }{
		{10, 50, 50, 60},
		{10, 50, 60, 60},
		{10, 50, 41, 60},
		{10, 50, 40, 60}, // Start + Wait is now
		{10, 50, 39, 50},
		{10, 50, 0, 50},
		{10, 10, 0, 20},
		{10, 11, 0, 11},
		{0, 50, 50, 50},
		{0, 50, 51, 50},
		{0, 50, 49, 50},
		{0, 0, 0, 0},
		{maxSpan, 50, 0, maxSpan + 50},
	} {
		x := newBoth(t, []api.Route{root(c.wait, 60)})
		x.put(c.now, alert("a", "1", c.start, maxAt))
		if next, e := x.b.Next(); next != c.next || e != api.OK {
			t.Error(c, next, e)
		}
		if c.next > c.now {
			if l := x.due(c.next - 1); len(l) != 0 {
				t.Error(c, l)
			}
		}
		if l := x.due(c.next); len(l) != 1 {
			t.Error(c, l)
		}
	}
}

// TestP25_1_Routes: an alert comes into a group of each route that is told of it.
func TestP25_1_Routes(t *testing.T) {
	x := newBoth(t, three())
	both := alert("a", "1", 0, 100)
	if n, e := x.put(5, both); n != 2 || e != api.OK {
		t.Error(n, e)
	}
	if n, e := x.put(6, alert("a", "2", 6, 100)); n != 1 || e != api.OK {
		t.Error(n, e)
	}
	if n, e := x.put(7, alert("b", "2", 7, 100)); n != 1 || e != api.OK {
		t.Error(n, e)
	}
	want := []Group{
		{0, "0/{}", []api.Alert{alert("b", "2", 7, 100)}, 17},
		{1, `1/{n="1"}`, []api.Alert{both}, 5},
		{2, `2/{job="a"}`, []api.Alert{both, alert("a", "2", 6, 100)}, 25},
	}
	if got := slices.Collect(x.b.All()); !sameGroups(got, want) {
		t.Error(got)
	}
	// Of two routes, one has a group: an alert that is over comes into that one alone.
	x.due(5)
	x.put(6, alert("a", "1", 0, 6))
	x.due(35)
	if n, e := x.put(36, alert("a", "1", 0, 36)); n != 1 || e != api.OK {
		t.Error(n, e)
	}
}

func TestP25_2_DueRefused(t *testing.T) {
	x := newBoth(t, byJob())
	x.put(5, alert("a", "1", 0, 100))
	for _, now := range []int64{-1, math.MinInt64, maxTime + 1, math.MaxInt64} {
		if l, e := x.b.Due(now); l != nil || e != api.ErrArg {
			t.Error(l, e)
		}
		x.due(now)
	}
	if l, e := x.b.Due(4); len(l) != 0 || e != api.OK {
		t.Error(l, e)
	}
	x.tells()
	if l := x.due(maxTime); len(l) != 1 {
		t.Error(l)
	}
}

// keysOf answers the keys of flushes.
func keysOf(l []api.Flush) []string {
	var out []string
	for _, f := range l {
		out = append(out, f.Key)
	}
	return out
}

// TestP25_2_Order: by the next flush, then by route, then by key.
func TestP25_2_Order(t *testing.T) {
	l := []api.Route{root(10, 60, "job"), child("n", "1", 0, 30, "job"), child("n", "2", 10, 30, "job")}
	puts := []struct {
		now    int64
		job, n string
	}{{0, "b", "3"}, {0, "a", "3"}, {0, "b", "2"}, {10, "c", "1"}, {0, "a", "2"}, {10, "a", "1"}, {3, "aa", "3"}, {0, "B", "3"}, {4, "b", "1"}, {0, "ä", "3"}}
	want := []string{`1/{job="b"}`, `0/{job="B"}`, `0/{job="a"}`, `0/{job="b"}`, `0/{job="ä"}`, `1/{job="a"}`, `1/{job="c"}`, `2/{job="a"}`, `2/{job="b"}`, `0/{job="aa"}`}
	for turn := range len(puts) {
		x := newBoth(t, l)
		for i := range puts {
			p := puts[(3*i+turn)%len(puts)]
			x.put(p.now, alert(p.job, p.n, p.now, 500))
		}
		if turn%2 == 0 {
			if got := keysOf(x.due(13)); !slices.Equal(got, want) {
				t.Errorf("%q", got)
			}
			continue
		}
		var got []string
		for _, now := range []int64{3, 4, 9, 10, 12, 13} {
			got = append(got, keysOf(x.due(now))...)
		}
		if !slices.Equal(got, want) {
			t.Errorf("%q", got)
		}
	}
}

// TestP25_2_Number: of one time, route 2 is ahead of route 10, which the order of their keys is not.
func TestP25_2_Number(t *testing.T) {
	l := []api.Route{root(0, 60)}
	for range 11 {
		l = append(l, child("job", "a", 0, 60))
	}
	x := newBoth(t, l)
	x.put(5, alert("a", "1", 5, 100))
	var numbers []int
	for _, f := range x.due(5) {
		numbers = append(numbers, f.Route)
	}
	if !slices.Equal(numbers, []int{1, 2, 3, 4, 5, 6, 7, 8, 9, 10, 11}) {
		t.Error(numbers)
	}
	numbers = nil
	for g := range x.b.All() {
		numbers = append(numbers, g.Route)
	}
	if !slices.Equal(numbers, []int{1, 2, 3, 4, 5, 6, 7, 8, 9, 10, 11}) {
		t.Error(numbers)
	}
}

// TestP25_2_Alerts: a flush has its alerts rising by label set, which is not the order of their texts.
func TestP25_2_Alerts(t *testing.T) {
	sets := [][]api.Label{of("B", "2"), of("a", "\x00"), of("a", "!"), of("a", `"`), of("a", "1"), of("a", "1", "b", "1"), of("a", "1", "b", "2"), of("a", "1", "c", "0"), of("a", "10"), of("a", "2"), of("a", `\`), of("a", "é"), of("a0", "1"), of("aa", "0"), of("b", "1"), many(16)}
	for turn := range len(sets) {
		x := newBoth(t, []api.Route{root(0, 10)})
		var want []api.Alert
		for i := range sets {
			x.put(5, api.Alert{Labels: sets[(7*i+turn)%len(sets)], Start: 5, End: 100})
			want = append(want, api.Alert{Labels: sets[i], Start: 5, End: 100})
		}
		l := x.due(5)
		if len(l) != 1 || l[0].Key != "0/{}" || !sameAlerts(l[0].Alerts, want) {
			t.Error(l)
		}
	}
}

// TestP25_2_Over: alerts that are over are told, and go; a group without alerts goes.
func TestP25_2_Over(t *testing.T) {
	x := newBoth(t, byJob())
	x.put(0, alert("a", "1", 0, 19))
	x.put(0, alert("a", "2", 0, 20))
	x.put(0, alert("a", "3", 0, 21))
	x.put(0, alert("a", "4", 50, 60))
	if l := x.due(20); len(l) != 1 || len(l[0].Alerts) != 4 {
		t.Error(l)
	}
	want := []Group{{0, `0/{job="a"}`, []api.Alert{alert("a", "3", 0, 21), alert("a", "4", 50, 60)}, 80}}
	if got := slices.Collect(x.b.All()); !sameGroups(got, want) {
		t.Error(got)
	}
	if l := x.due(79); len(l) != 0 {
		t.Error(l)
	}
	if l := x.due(80); len(l) != 1 || len(l[0].Alerts) != 2 {
		t.Error(l)
	}
	if x.b.Len() != 0 {
		t.Error(x.b.Len())
	}
	if n, e := x.b.Next(); n != 0 || e != api.ErrNone {
		t.Error(n, e)
	}
	if l := x.due(200); len(l) != 0 {
		t.Error(l)
	}
}

// TestP25_2_Again: a group that has gone comes again as a new one, and waits again.
func TestP25_2_Again(t *testing.T) {
	x := newBoth(t, byJob())
	x.put(0, alert("a", "1", 0, 10))
	if l := x.due(10); len(l) != 1 {
		t.Error(l)
	}
	if n, e := x.put(10, alert("a", "1", 0, 10)); n != 0 || e != api.OK || x.b.Len() != 0 {
		t.Error(n, e)
	}
	x.put(12, alert("a", "1", 12, 100))
	if n, e := x.b.Next(); n != 22 || e != api.OK {
		t.Error(n, e)
	}
	x.due(22)
	if n, e := x.b.Next(); n != 82 || e != api.OK {
		t.Error(n, e)
	}
	// In between the others go on.
	x.put(30, alert("b", "1", 30, 35))
	x.put(30, alert("c", "1", 30, 300))
	if l := keysOf(x.due(40)); !slices.Equal(l, []string{`0/{job="b"}`, `0/{job="c"}`}) {
		t.Error(l)
	}
	x.put(41, alert("b", "1", 0, 300))
	if l := keysOf(x.due(41)); !slices.Equal(l, []string{`0/{job="b"}`}) {
		t.Error(l)
	}
	if l := keysOf(x.due(500)); !slices.Equal(l, []string{`0/{job="a"}`, `0/{job="c"}`, `0/{job="b"}`}) {
		t.Error(l)
	}
}

// TestP25_2_Late: a group that was asked for late is flushed once, and its next flush is an Interval behind that.
func TestP25_2_Late(t *testing.T) {
	for _, now := range []int64{10, 11, 69, 70, 71, 1000, maxTime} {
		x := newBoth(t, byJob())
		x.put(0, alert("a", "1", 0, maxAt))
		if l := x.due(now); len(l) != 1 {
			t.Error(now, l)
		}
		if next, e := x.b.Next(); next != now+60 || e != api.OK {
			t.Error(now, next, e)
		}
		if l := x.due(now); len(l) != 0 {
			t.Error(now, l)
		}
		// A time that lies behind changes nothing.
		if l := x.due(0); len(l) != 0 {
			t.Error(now, l)
		}
	}
}

func TestP25_3_All(t *testing.T) {
	x := newBoth(t, byJob())
	x.tells()
	x.put(3, alert("b", "1", 3, 100))
	x.tells()
	x.put(1, alert("a", "2", 1, 100))
	x.put(2, alert("a", "1", 2, 100))
	x.put(0, alert("ab", "1", 0, 100))
	want := []Group{
		{0, `0/{job="a"}`, []api.Alert{alert("a", "1", 2, 100), alert("a", "2", 1, 100)}, 11},
		{0, `0/{job="ab"}`, []api.Alert{alert("ab", "1", 0, 100)}, 10},
		{0, `0/{job="b"}`, []api.Alert{alert("b", "1", 3, 100)}, 13},
	}
	if got := slices.Collect(x.b.All()); !sameGroups(got, want) || x.b.Len() != 3 {
		t.Error(got, x.b.Len())
	}
	if next, e := x.b.Next(); next != 10 || e != api.OK {
		t.Error(next, e)
	}
	x.due(10)
	if next, e := x.b.Next(); next != 11 || e != api.OK {
		t.Error(next, e)
	}
}

// TestP25_3_AllLeft: All may be left, gone through again, and is of the time at which it was asked for.
func TestP25_3_AllLeft(t *testing.T) {
	x := newBoth(t, byJob())
	for _, job := range []string{"a", "b", "c"} {
		x.put(0, alert(job, "1", 0, 20))
		x.put(0, alert(job, "2", 0, 90))
	}
	all := x.b.All()
	want := slices.Collect(all)
	for range 2 {
		n := 0
		for g := range all {
			n++
			if !sameGroup(g, want[0]) {
				t.Error(g)
			}
			break
		}
		if n != 1 {
			t.Error(n)
		}
	}
	x.put(5, alert("a", "0", 5, 90))
	x.put(5, alert("a", "1", 5, 6))
	x.put(5, alert("0", "1", 5, 90))
	x.due(100)
	if got := slices.Collect(all); !sameGroups(got, want) {
		t.Error(got)
	}
	x = newBoth(t, byJob())
	for _, job := range []string{"a", "b", "c"} {
		x.put(0, alert(job, "1", 0, 90))
	}
	seen := 0
	for g := range x.b.All() {
		seen++
		x.put(0, api.Alert{Labels: g.Alerts[0].Labels, End: 1})
		x.put(0, alert(fmt.Sprint("new", seen), "1", 0, 1))
		x.due(int64(100 * seen))
	}
	if seen != 3 || x.b.Len() != 0 {
		t.Error(seen, x.b.Len())
	}
}

// goThrough does random things to a board and its model, a time not below the one ahead, and tells of each thing that was done.
func goThrough(t *testing.T, seed int64, rounds int, seen func(x both, now int64, a *api.Alert, l []api.Flush)) {
	t.Helper()
	r := newSource(seed)
	for range rounds {
		x := newBoth(t, r.routes())
		now := int64(r.Intn(50))
		if r.Intn(20) == 0 {
			now = maxTime - 100
		}
		for range 60 {
			if r.Intn(3) == 0 {
				seen(x, now, nil, x.due(now))
			} else {
				a := r.alert(now)
				if _, e := x.put(now, a); e == api.OK {
					seen(x, now, &a, nil)
				}
			}
			if t.Failed() {
				t.Fatalf("%v at %d", x.m.routes, now)
			}
			now = min(maxTime, now+int64(r.Intn(3)*r.Intn(12)))
		}
	}
}

func TestP25_1_Model(t *testing.T) {
	goThrough(t, 251, 400, func(both, int64, *api.Alert, []api.Flush) {})
}

// TestP25_1_AnyTimes: times may fall, and be none.
func TestP25_1_AnyTimes(t *testing.T) {
	r := newSource(2511)
	for range 300 {
		x := newBoth(t, r.routes())
		for range 60 {
			now := int64(r.Intn(120)) - 2
			if r.Intn(4) == 0 {
				x.due(now)
			} else {
				x.put(now, r.alert(max(0, now)))
			}
		}
		if t.Failed() {
			t.Fatal(x.m.routes)
		}
	}
}

// TestP25_4_Waited: a group is due at its alert's coming and Wait, at the latest, and then an Interval behind the flush before.
func TestP25_4_Waited(t *testing.T) {
	goThrough(t, 254, 150, func(x both, now int64, a *api.Alert, l []api.Flush) {
		for g := range x.b.All() {
			r := x.m.routes[g.Route]
			if g.Next > now+max(r.Wait, r.Interval) {
				t.Error(g, now)
			}
			if a == nil && g.Next <= now {
				t.Error("not flushed", g, now)
			}
		}
		for _, f := range l {
			for g := range x.b.All() {
				if g.Route == f.Route && g.Key == f.Key && g.Next != now+x.m.routes[f.Route].Interval {
					t.Error(g, now)
				}
			}
		}
	})
	r := newSource(2541)
	for range 500 {
		l := r.routes()
		x := newBoth(t, l)
		now := int64(r.Intn(50))
		a := api.Alert{Labels: r.set(), Start: int64(r.Intn(60)), End: maxAt}
		x.put(now, a)
		for g := range x.b.All() {
			if g.Next < now || g.Next > now+l[g.Route].Wait {
				t.Fatal(g, now, a)
			}
		}
	}
}

// lastFlush is when a group was flushed last.
type lastFlush map[place]int64

// TestP25_5_Apart: two flushes of one group lie at least Interval apart, as long as it is there.
func TestP25_5_Apart(t *testing.T) {
	last := map[*Board]lastFlush{}
	goThrough(t, 255, 200, func(x both, now int64, a *api.Alert, l []api.Flush) {
		if last[x.b] == nil {
			clear(last)
			last[x.b] = lastFlush{}
		}
		for _, f := range l {
			at := place{f.Route, f.Key}
			if before, is := last[x.b][at]; is && now-before < x.m.routes[f.Route].Interval {
				t.Error(f, before, now)
			}
			last[x.b][at] = now
		}
		there := map[place]bool{}
		for g := range x.b.All() {
			there[place{g.Route, g.Key}] = true
		}
		for at := range last[x.b] {
			if !there[at] {
				delete(last[x.b], at)
			}
		}
	})
}

// TestP25_6_Told: an alert that was put, and fires, is in each flush of its groups; with an End that is over it is in just one.
func TestP25_6_Told(t *testing.T) {
	type in struct {
		place
		set string
	}
	was := map[*Board]map[in]api.Alert{}
	goThrough(t, 256, 200, func(x both, now int64, a *api.Alert, l []api.Flush) {
		if was[x.b] == nil {
			clear(was)
			was[x.b] = map[in]api.Alert{}
		}
		for _, f := range l {
			told := map[in]bool{}
			for _, a := range f.Alerts {
				at := in{place{f.Route, f.Key}, fmt.Sprint(a.Labels)}
				told[at] = true
				if !sameAlert(was[x.b][at], a) {
					t.Error("not as it was put", f, was[x.b][at])
				}
				if a.End <= now {
					delete(was[x.b], at) // told again, it would be none that was put
				}
			}
			for at, a := range was[x.b] {
				if at.place == (place{f.Route, f.Key}) && a.End > now && !told[at] {
					t.Error("not told", a, f)
				}
			}
		}
		if a == nil {
			return
		}
		for g := range x.b.All() {
			for _, b := range g.Alerts {
				if sameAlert(*a, b) {
					was[x.b][in{place{g.Route, g.Key}, fmt.Sprint(a.Labels)}] = *a
				}
			}
		}
	})
}

// TestP25_7_AtOnce: Due asked again at once tells none.
func TestP25_7_AtOnce(t *testing.T) {
	goThrough(t, 257, 150, func(x both, now int64, a *api.Alert, l []api.Flush) {
		if a != nil {
			return
		}
		if again := x.due(now); len(again) != 0 {
			t.Error(again)
		}
	})
}

// TestP25_2_Many: many groups, and many alerts in one.
func TestP25_2_Many(t *testing.T) {
	b, _, _ := New([]api.Route{root(0, 60, "job"), child("m", "1", 5, 60)})
	const n = 3000
	for i := range n {
		at := int64(i * 7919 % n)
		a := api.Alert{Labels: of("job", fmt.Sprintf("%05d", at)), Start: at, End: at + n}
		if have, e := b.Put(at, a); have != 1 || e != api.OK {
			t.Fatal(have, e)
		}
		a.Labels = of("job", fmt.Sprintf("%05d", at), "m", "1")
		if have, e := b.Put(at, a); have != 1 || e != api.OK {
			t.Fatal(have, e)
		}
	}
	if b.Len() != n+1 {
		t.Error(b.Len())
	}
	l, e := b.Due(2 * n)
	if e != api.OK || len(l) != n+1 {
		t.Fatal(len(l), e)
	}
	of0 := slices.DeleteFunc(slices.Clone(l), func(f api.Flush) bool { return f.Route == 1 })
	for i, f := range of0 {
		if f.Key != fmt.Sprintf(`0/{job="%05d"}`, i) {
			t.Fatal(i, f.Key)
		}
	}
	for _, f := range l {
		if f.Route == 1 && len(f.Alerts) != n {
			t.Error(len(f.Alerts))
		}
	}
	if b.Len() != 0 {
		t.Error(b.Len())
	}
}

// spoil writes into all of alerts, and behind them.
func spoil(l []api.Alert) {
	for i := range l {
		for k := range l[i].Labels {
			l[i].Labels[k] = api.Label{Name: "spoilt", Value: "x"}
		}
		_ = append(l[i].Labels, of("more", "x")...)
		l[i].Labels, l[i].Start, l[i].End = nil, -7, -7
	}
	_ = append(l, api.Alert{Start: -8})
}

// TestRules_Memory: nothing that is handed in is kept or changed, and what is answered is new.
func TestRules_Memory(t *testing.T) {
	l := three()
	b, _, _ := New(l)
	x := both{t, b, &boardModel{routes: three()}}
	if !slices.EqualFunc(l, three(), func(a, b api.Route) bool { return fmt.Sprint(a) == fmt.Sprint(b) }) {
		t.Error("changed", l)
	}
	for i := range l {
		for k := range l[i].Matchers {
			l[i].Matchers[k] = api.Matcher{Op: api.MEq, Name: "spoilt", Value: "x"}
		}
		for k := range l[i].By {
			l[i].By[k] = "spoilt"
		}
		l[i] = api.Route{Wait: 77, Interval: 77}
	}
	room := make([]api.Label, 2, 5)
	copy(room, of("job", "a", "n", "1"))
	a := api.Alert{Labels: room, Start: 3, End: 100}
	x.put(5, a)
	spoil([]api.Alert{a})
	x.tells()
	again := alert("a", "1", 4, 200)
	x.put(6, again)
	spoil([]api.Alert{again})
	x.tells()
	x.put(6, alert("a", "2", 4, 200))
	for range 2 {
		for g := range x.b.All() {
			spoil(g.Alerts)
		}
		x.tells()
	}
	all := x.b.All()
	for g := range all {
		spoil(g.Alerts)
	}
	if got := slices.Collect(all); !sameGroups(got, x.m.all()) {
		t.Error(got)
	}
	// One alert in two groups: what is written into the one is not seen in the other.
	flushes, _ := x.b.Due(40)
	want, _ := x.m.due(40)
	if len(flushes) != 2 {
		t.Fatal(flushes)
	}
	spoil(flushes[0].Alerts)
	if !sameFlushes(flushes[1:], want[1:]) {
		t.Error(flushes)
	}
	spoil(flushes[1].Alerts)
	x.tells()
	groups := slices.Collect(x.b.All())
	spoil(groups[0].Alerts)
	if !sameGroups(groups[1:], x.m.all()[1:]) {
		t.Error(groups)
	}
}

// TestRules_Apart: two boards know nothing of each other.
func TestRules_Apart(t *testing.T) {
	x, y := newBoth(t, byJob()), newBoth(t, byJob())
	x.put(0, alert("a", "1", 0, 100))
	y.tells()
	y.put(3, alert("a", "2", 3, 100))
	x.due(10)
	y.tells()
	y.due(300)
	x.tells()
}

// FuzzDispatch holds a board against its model; each call is made of eight bytes.
func FuzzDispatch(f *testing.F) {
	f.Add([]byte("0123456789abcdef0123456789ABCDEF"), int64(10), int64(60), int64(0), int64(5))
	f.Add([]byte("\x01\x01\x00\x00\x00\x00\x20\x00\x00\x00\x10\x00\x00\x00\x00\x00"), int64(0), int64(1), int64(3), int64(3))
	f.Fuzz(func(t *testing.T, b []byte, wait, interval, otherWait, otherInterval int64) {
		l := []api.Route{root(wait, interval, "job"), child("n", "1", otherWait, otherInterval), child("job", "a", wait, otherInterval, "n")}
		if e, _ := route.Right(l); e != api.OK {
			if board, e, _ := New(l); board != nil || e == api.OK {
				t.Error(board, e)
			}
			return
		}
		x := newBoth(t, l)
		sets := append(wrongSets(), nil, of("job", "a"), of("job", "b"), of("job", "a", "n", "1"), of("job", "a", "n", "2"), of("job", "b", "n", "1"), of("n", "1"), many(16))
		now := int64(0)
		for ; len(b) >= 8 && !t.Failed(); b = b[8:] {
			number := func(at int) int64 { return int64(int16(binary.LittleEndian.Uint16(b[at:]))) }
			now += number(2) / 256
			if b[0]%4 == 0 {
				x.due(now)
				continue
			}
			a := api.Alert{Labels: sets[int(b[1])%len(sets)], Start: now + number(4)/64, End: now + number(6)/64}
			switch b[0] / 64 {
			case 1:
				a.Start = max(0, a.Start)
				a.End = a.Start + int64(b[6])
			case 2:
				a.End = maxAt + int64(b[6]%3) - 1
			}
			x.put(now, a)
		}
	})
}
