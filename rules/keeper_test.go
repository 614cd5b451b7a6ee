package rules

import (
	"encoding/binary"
	"fmt"
	"math"
	"slices"
	"testing"

	"tocsin/api"
)

// keeper answers a new keeper of a right rule.
func keeper(t *testing.T, r api.Rule) *Keeper {
	t.Helper()
	k, e := New(r)
	if k == nil || e != api.OK {
		t.Fatal(r, k, e)
	}
	return k
}

// active answers an alert of {a=value, alertname="x"}.
func active(value string, state int, since, fired, gone int64, v float64) api.Active {
	return api.Active{Labels: of("a", value, "alertname", "x"), State: state, Since: since, Fired: fired, Gone: gone, V: v}
}

// move is a step, and what it answers; tells has the values of the label a that points have.
type move struct {
	now   int64
	tells []string
	want  []api.Active
	gone  []string
}

func tellsPoints(tells []string, v float64) []api.Point {
	var l []api.Point
	for _, value := range tells {
		l = append(l, point(v, "__name__", "m", "a", value))
	}
	return l
}

func goes(t *testing.T, r api.Rule, moves []move) {
	t.Helper()
	k := keeper(t, r)
	for _, m := range moves {
		list, gone, e := k.Step(m.now, tellsPoints(m.tells, float64(m.now)))
		var want [][]api.Label
		for _, value := range m.gone {
			want = append(want, of("a", value, "alertname", "x"))
		}
		if e != api.OK || !sameActive(list, m.want) || !sameSets(gone, want) || k.Last() != m.now || !sameActive(k.Active(), m.want) {
			t.Errorf("at %d: %v, %v, %d; want %v, %v", m.now, list, gone, e, m.want, want)
		}
	}
}

func TestExamples(t *testing.T) {
	r := api.Rule{Name: "x", For: 10}
	one := []string{"1"}
	goes(t, r, []move{
		{0, one, []api.Active{active("1", api.SPending, 0, -1, -1, 0)}, nil},
		{5, one, []api.Active{active("1", api.SPending, 0, -1, -1, 5)}, nil},
		{10, one, []api.Active{active("1", api.SFiring, 0, 10, -1, 10)}, nil},
		{15, nil, nil, one},
	})
	goes(t, r, []move{
		{0, one, []api.Active{active("1", api.SPending, 0, -1, -1, 0)}, nil},
		{5, nil, nil, nil},
		{10, one, []api.Active{active("1", api.SPending, 10, -1, -1, 10)}, nil},
	})
	for _, x := range [][4]int64{{100, 30, 100, 130}, {100, 30, 50, 100}, {100, 30, 159, 160}} {
		if n, e := Next(x[0], x[1], x[2]); n != x[3] || e != api.OK {
			t.Error(x, n, e)
		}
	}
}

func TestNilKeeper(t *testing.T) {
	var k *Keeper
	if list, gone, e := k.Step(-1, []api.Point{point(1, "a", "")}); list != nil || gone != nil || e != api.ErrNil {
		t.Error(list, gone, e)
	}
	if len(k.Active()) != 0 || k.Last() != -1 {
		t.Error(k.Active(), k.Last())
	}
}

// TestP1_ZeroKeeper: a keeper that nobody made does not panic.
func TestP1_ZeroKeeper(t *testing.T) {
	var k Keeper
	k.Step(5, []api.Point{point(1, "a", "1"), point(1)})
	k.Step(6, nil)
	if len(k.Active()) != 0 || k.Last() != 6 {
		t.Error(k.Active(), k.Last())
	}
}

func TestP19_2_New(t *testing.T) {
	for _, r := range append(wrongRules(), api.Rule{Record: true, Name: "r"}, api.Rule{Record: true}) {
		if k, e := New(r); k != nil || e != api.ErrRule {
			t.Error(r, k, e)
		}
		if k, e := Restore(r, []api.Active{{}}, -2); k != nil || e != api.ErrRule {
			t.Error(r, k, e)
		}
	}
	k := keeper(t, api.Rule{Name: "x"})
	if len(k.Active()) != 0 || k.Last() != -1 {
		t.Error(k.Active(), k.Last())
	}
}

func TestP19_2_RestoreLast(t *testing.T) {
	r := api.Rule{Name: "x"}
	for _, last := range []int64{-2, math.MinInt64, maxTime + 1, math.MaxInt64} {
		for _, l := range [][]api.Active{nil, {{}}, {active("1", api.SPending, 0, -1, -1, 0)}} {
			if k, e := Restore(r, l, last); k != nil || e != api.ErrArg {
				t.Error(last, k, e)
			}
		}
	}
	for _, last := range []int64{-1, 0, 1, maxTime} {
		for _, l := range [][]api.Active{nil, {}} {
			k, e := Restore(r, l, last)
			if e != api.OK || len(k.Active()) != 0 || k.Last() != last {
				t.Fatal(last, k, e)
			}
			if _, _, e := k.Step(last, nil); e != api.ErrArg {
				t.Error(last, e)
			}
			if _, _, e := k.Step(last+1, nil); (e == api.OK) != (last < maxTime) {
				t.Error(last, e)
			}
		}
	}
	// Ahead of the first evaluation no alert can be.
	if k, e := Restore(r, []api.Active{active("1", api.SPending, -1, -1, -1, 0)}, -1); k != nil || e != api.ErrState {
		t.Error(k, e)
	}
	if k, e := Restore(r, []api.Active{active("1", api.SPending, 0, -1, -1, 0)}, -1); k != nil || e != api.ErrState {
		t.Error(k, e)
	}
}

// canNotBe are alerts that can not be behind an evaluation at 100.
func canNotBe() []api.Active {
	l := []api.Active{
		{State: api.SPending, Since: 50, Fired: -1, Gone: -1},
		{Labels: []api.Label{}, State: api.SPending, Since: 50, Fired: -1, Gone: -1},
		active("0", 0, 50, -1, -1, 0),
		active("0", 3, 50, -1, -1, 0),
		active("0", -1, 50, 60, -1, 0),
		active("0", 0, 50, 60, 70, 0),
		active("0", api.SPending, -1, -1, -1, 0),
		active("0", api.SPending, 101, -1, -1, 0),
		active("0", api.SPending, math.MaxInt64, -1, -1, 0),
		active("0", api.SPending, 50, 60, -1, 0),
		active("0", api.SPending, 50, 0, -1, 0),
		active("0", api.SPending, 50, -2, -1, 0),
		active("0", api.SPending, 50, -1, 60, 0),
		active("0", api.SPending, 50, -1, 0, 0),
		active("0", api.SPending, 50, -1, -2, 0),
		active("0", api.SFiring, -1, 60, -1, 0),
		active("0", api.SFiring, 101, 101, -1, 0),
		active("0", api.SFiring, 50, -1, -1, 0),
		active("0", api.SFiring, 50, 49, -1, 0),
		active("0", api.SFiring, 50, 101, -1, 0),
		active("0", api.SFiring, 50, 60, 59, 0),
		active("0", api.SFiring, 50, 60, 101, 0),
		active("0", api.SFiring, 50, 60, -2, 0),
		active("0", api.SFiring, 50, 60, 0, 0),
		active("0", api.SFiring, math.MinInt64, math.MinInt64, math.MinInt64, 0),
		active("0", api.SFiring, -1, -1, -1, 0),
	}
	for _, set := range wrongSets() {
		l = append(l, api.Active{Labels: set, State: api.SPending, Since: 50, Fired: -1, Gone: -1})
	}
	return l
}

func TestP19_2_RestoreState(t *testing.T) {
	r := api.Rule{Name: "x", For: 10, Keep: 10}
	right := active("1", api.SFiring, 50, 60, 70, 0)
	for _, wrong := range canNotBe() {
		for _, l := range [][]api.Active{{wrong}, {right, wrong}, {wrong, right}, {wrong, wrong}, {right, right, wrong}, {wrong, right, right}} {
			if k, e := Restore(r, l, 100); k != nil || e != api.ErrState {
				t.Error(l, k, e)
			}
		}
	}
	for _, one := range []api.Active{
		active("1", api.SPending, 0, -1, -1, 1),
		active("1", api.SPending, 100, -1, -1, 1),
		active("1", api.SFiring, 0, 0, -1, 1),
		active("1", api.SFiring, 0, 0, 0, 1),
		active("1", api.SFiring, 100, 100, -1, 1),
		active("1", api.SFiring, 100, 100, 100, 1),
		active("1", api.SFiring, 50, 50, 100, 1),
		active("1", api.SFiring, 50, 100, -1, 1),
		active("1", api.SFiring, 50, 60, 60, math.NaN()),
		{Labels: of("__name__", "m"), State: api.SPending, Since: 7, Fired: -1, Gone: -1},
		{Labels: many(16), State: api.SPending, Since: 7, Fired: -1, Gone: -1},
	} {
		k, e := Restore(r, []api.Active{one}, 100)
		if e != api.OK || k.Last() != 100 || !sameActive(k.Active(), []api.Active{one}) {
			t.Error(one, k, e)
		}
		if k, e := Restore(r, []api.Active{one, one}, 100); k != nil || e != api.ErrTwice {
			t.Error(one, k, e)
		}
	}
	all := []api.Active{active("3", api.SPending, 1, -1, -1, 3), active("1", api.SFiring, 1, 2, 3, 1), active("2", api.SFiring, 1, 2, -1, 2)}
	k, e := Restore(r, all, 100)
	if e != api.OK || !sameActive(k.Active(), []api.Active{all[1], all[2], all[0]}) {
		t.Error(k.Active(), e)
	}
	other := active("1", api.SPending, 1, -1, -1, 1)
	if k, e := Restore(r, append(all, other), 100); k != nil || e != api.ErrTwice {
		t.Error(k, e)
	}
}

func TestP19_3_StepRefused(t *testing.T) {
	r := api.Rule{Name: "x", For: 10, Keep: 20, Labels: of("z", "1")}
	k := keeper(t, r)
	k.Step(0, []api.Point{point(1, "a", "1"), point(1, "a", "2")})
	k.Step(10, []api.Point{point(2, "a", "1"), point(1, "a", "3")})
	k.Step(15, []api.Point{point(2, "a", "3")})
	want := k.Active()
	fine, wrong, full := point(1, "a", "1"), point(1, "a", ""), api.Point{Labels: many(16)}
	for _, x := range []struct {
		now int64
		v   []api.Point
		e   api.Errno
	}{
		{-1, nil, api.ErrArg},
		{math.MinInt64, nil, api.ErrArg},
		{0, nil, api.ErrArg},
		{14, nil, api.ErrArg},
		{15, nil, api.ErrArg},
		{15, []api.Point{fine}, api.ErrArg},
		{15, []api.Point{wrong}, api.ErrArg},
		{maxTime + 1, nil, api.ErrArg},
		{maxTime + 1, []api.Point{fine, fine}, api.ErrArg},
		{math.MaxInt64, nil, api.ErrArg},
		{16, []api.Point{wrong}, api.ErrLabel},
		{16, []api.Point{fine, wrong}, api.ErrLabel},
		{16, []api.Point{fine, full}, api.ErrFull},
		{16, []api.Point{full, wrong}, api.ErrFull},
		{16, []api.Point{wrong, full}, api.ErrLabel},
		{16, []api.Point{fine, fine}, api.ErrMany},
		{16, []api.Point{fine, fine, wrong}, api.ErrLabel},
		{16, []api.Point{fine, fine, full}, api.ErrFull},
		{16, []api.Point{fine, point(1, "__name__", "m", "a", "1")}, api.ErrMany},
		{16, []api.Point{fine, point(1, "a", "1", "z", "2")}, api.ErrMany},
		{16, []api.Point{fine, point(1, "a", "1", "alertname", "y")}, api.ErrMany},
	} {
		list, gone, e := k.Step(x.now, x.v)
		if list != nil || gone != nil || e != x.e {
			t.Error(x, list, gone, e)
		}
		if k.Last() != 15 || !sameActive(k.Active(), want) {
			t.Error("changed", x, k.Active(), k.Last())
		}
	}
	for _, set := range wrongSets() {
		if _, _, e := k.Step(16, []api.Point{fine, {Labels: set}}); e != api.ErrLabel || !sameActive(k.Active(), want) {
			t.Error(set, e)
		}
	}
	if _, _, e := k.Step(16, []api.Point{{Labels: many(14)}}); e != api.OK {
		t.Error(e)
	}
	if _, _, e := k.Step(maxTime, nil); e != api.OK || k.Last() != maxTime {
		t.Error(e)
	}
}

// TestP19_3_Keep: what fires is kept, and comes back as it was; what waits is not.
func TestP19_3_Keep(t *testing.T) {
	one, two := []string{"1"}, []string{"2"}
	firing := func(value string, since, fired, gone int64, v float64) api.Active {
		return active(value, api.SFiring, since, fired, gone, v)
	}
	goes(t, api.Rule{Name: "x", For: 10, Keep: 20}, []move{
		{0, one, []api.Active{active("1", api.SPending, 0, -1, -1, 0)}, nil},
		{9, one, []api.Active{active("1", api.SPending, 0, -1, -1, 9)}, nil},
		{10, one, []api.Active{firing("1", 0, 10, -1, 10)}, nil},
		{20, nil, []api.Active{firing("1", 0, 10, 20, 10)}, nil},
		{30, nil, []api.Active{firing("1", 0, 10, 20, 10)}, nil},
		{39, one, []api.Active{firing("1", 0, 10, -1, 39)}, nil}, // ahead of its end: all as it was
		{45, nil, []api.Active{firing("1", 0, 10, 45, 39)}, nil},
		{64, nil, []api.Active{firing("1", 0, 10, 45, 39)}, nil},
		{65, nil, nil, one},
		{66, nil, nil, nil},
		{67, one, []api.Active{active("1", api.SPending, 67, -1, -1, 67)}, nil}, // behind its end: anew
		{77, append(one, two...), []api.Active{firing("1", 67, 77, -1, 77), active("2", api.SPending, 77, -1, -1, 77)}, nil},
		{78, nil, []api.Active{firing("1", 67, 77, 78, 77)}, nil},
		{1000, one, []api.Active{firing("1", 67, 77, -1, 1000)}, nil}, // its end has gone by, but no evaluation was there
	})
	goes(t, api.Rule{Name: "x"}, []move{
		{3, one, []api.Active{firing("1", 3, 3, -1, 3)}, nil},
		{4, two, []api.Active{firing("2", 4, 4, -1, 4)}, one},
		{5, nil, nil, two},
		{6, []string{"2", "1"}, []api.Active{firing("1", 6, 6, -1, 6), firing("2", 6, 6, -1, 6)}, nil},
		{7, []string{"1", "2"}, []api.Active{firing("1", 6, 6, -1, 7), firing("2", 6, 6, -1, 7)}, nil},
		{8, nil, nil, []string{"1", "2"}},
	})
	goes(t, api.Rule{Name: "x", Keep: 1}, []move{
		{3, one, []api.Active{firing("1", 3, 3, -1, 3)}, nil},
		{4, nil, []api.Active{firing("1", 3, 3, 4, 3)}, nil},
		{5, nil, nil, one},
	})
	goes(t, api.Rule{Name: "x", For: 1}, []move{
		{0, one, []api.Active{active("1", api.SPending, 0, -1, -1, 0)}, nil},
		{maxTime, one, []api.Active{firing("1", 0, maxTime, -1, maxTime)}, nil},
	})
	goes(t, api.Rule{Name: "x", For: maxSpan, Keep: maxSpan}, []move{
		{0, one, []api.Active{active("1", api.SPending, 0, -1, -1, 0)}, nil},
		{maxSpan - 1, one, []api.Active{active("1", api.SPending, 0, -1, -1, maxSpan-1)}, nil},
		{maxSpan, one, []api.Active{firing("1", 0, maxSpan, -1, maxSpan)}, nil},
		{maxSpan + 1, nil, []api.Active{firing("1", 0, maxSpan, maxSpan+1, maxSpan)}, nil},
		{maxSpan + maxSpan, nil, []api.Active{firing("1", 0, maxSpan, maxSpan+1, maxSpan)}, nil},
		{maxSpan + maxSpan + 1, nil, nil, one},
	})
}

// TestP19_3_Sets: alerts whose texts are near to one another are two.
func TestP19_3_Sets(t *testing.T) {
	k := keeper(t, api.Rule{Name: "x"})
	v := []api.Point{point(1, "a", `1",b="2`), point(2, "a", "1", "b", "2"), point(3), point(4, "a", `1\`), point(5, "a", `1\\`), point(6, "a", "1\n"), point(7, "a", `1\n`)}
	list, _, e := k.Step(0, v)
	if e != api.OK || len(list) != len(v) {
		t.Fatal(list, e)
	}
	_, gone, e := k.Step(1, nil)
	if e != api.OK || len(gone) != len(v) || !slices.IsSortedFunc(gone, func(a, b []api.Label) int {
		if ahead(a, b) {
			return -1
		}
		return 1
	}) {
		t.Error(gone, e)
	}
}

// TestP19_3_Model holds random keepers against the chapter's words.
func TestP19_3_Model(t *testing.T) {
	s := newSource(193)
	for range 400 {
		r := s.rule()
		k, m := keeper(t, r), &keeperModel{rule: r, last: -1}
		now := int64(s.Intn(3)) - 1
		for range 40 {
			v := s.points(6)
			if s.Intn(20) == 0 {
				v = append(v, api.Point{Labels: wrongSets()[s.Intn(len(wrongSets()))]})
			}
			if !checkStep(t, k, m, now, v) {
				return
			}
			now += int64(s.Intn(12)) - 1
		}
	}
}

// history is which alert was told at which Steps.
type history struct {
	times []int64
	told  map[string][]bool // by the value of a
}

// fires: by P19.5's words.
func (h history) fires(value string, wait int64) bool {
	now := h.times[len(h.times)-1]
	from := -1
	for i, at := range h.times {
		if at <= now-wait {
			from = i
		}
	}
	return from >= 0 && !slices.Contains(h.told[value][from:], false)
}

func TestP19_5_For(t *testing.T) {
	s := newSource(195)
	for range 300 {
		r := api.Rule{Name: "x", For: int64(s.Intn(40))}
		k := keeper(t, r)
		h := history{told: map[string][]bool{}}
		now := int64(s.Intn(5))
		for range 40 {
			var tells []string
			for i := range 3 {
				value := fmt.Sprint(i)
				is := s.Intn(8) > 0
				if is {
					tells = append(tells, value)
				}
				h.told[value] = append(h.told[value], is)
			}
			h.times = append(h.times, now)
			list, _, e := k.Step(now, tellsPoints(tells, 1))
			if e != api.OK {
				t.Fatal(e)
			}
			for i := range 3 {
				value := fmt.Sprint(i)
				is := slices.ContainsFunc(list, func(a api.Active) bool {
					return a.State == api.SFiring && a.Labels[0].Value == value
				})
				if is != h.fires(value, r.For) {
					t.Fatal(r.For, h, value, list)
				}
			}
			now += 1 + int64(s.Intn(15))
		}
	}
}

// TestP19_6_Kept: what has fired is there until it was not told for Keep; it goes just once.
func TestP19_6_Kept(t *testing.T) {
	s := newSource(196)
	for range 300 {
		r := api.Rule{Name: "x", For: int64(s.Intn(10)), Keep: int64(s.Intn(40))}
		k := keeper(t, r)
		fired, missed := false, int64(-1) // since when it is not told
		now := int64(s.Intn(5))
		for range 60 {
			is := s.Intn(3) == 0
			var tells []string
			if is {
				tells = []string{"1"}
			}
			list, gone, e := k.Step(now, tellsPoints(tells, 1))
			if e != api.OK {
				t.Fatal(e)
			}
			switch {
			case is:
				missed = -1
			case missed < 0:
				missed = now
			}
			ends := fired && missed >= 0 && now-missed >= r.Keep
			if ends != (len(gone) == 1) || len(gone) > 1 {
				t.Fatal(r, now, gone, missed)
			}
			if fired && !ends && (len(list) != 1 || list[0].State != api.SFiring || list[0].Gone != missed) {
				t.Fatal(r, now, list, missed)
			}
			fired = len(list) == 1 && list[0].State == api.SFiring
			now += 1 + int64(s.Intn(15))
		}
	}
}

// TestP19_7_Restored: a keeper that is restored goes on as the one whose alerts it has.
func TestP19_7_Restored(t *testing.T) {
	s := newSource(197)
	for range 300 {
		r := s.rule()
		k := keeper(t, r)
		now := int64(s.Intn(3))
		for range 30 {
			k.Step(now, s.points(6))
			now += int64(s.Intn(12)) - 1
			if s.Intn(4) > 0 {
				continue
			}
			was := k.Active()
			s.Shuffle(len(was), func(i, j int) { was[i], was[j] = was[j], was[i] })
			other, e := Restore(r, was, k.Last())
			if e != api.OK || !sameActive(other.Active(), k.Active()) || other.Last() != k.Last() {
				t.Fatal(was, k.Last(), e)
			}
			for range 3 {
				v := s.points(6)
				list, gone, e := k.Step(now, v)
				list2, gone2, e2 := other.Step(now, v)
				if e != e2 || !sameActive(list, list2) || !sameSets(gone, gone2) || other.Last() != k.Last() {
					t.Fatal(r, v, list, list2, gone, gone2, e, e2)
				}
				now += int64(s.Intn(12)) - 1
			}
		}
	}
}

// TestP19_7_Apart: the restored one and the other know nothing of each other.
func TestP19_7_Apart(t *testing.T) {
	r := api.Rule{Name: "x", Keep: 100}
	k := keeper(t, r)
	k.Step(0, tellsPoints([]string{"1"}, 1))
	other, _ := Restore(r, k.Active(), k.Last())
	want := k.Active()
	other.Step(5, nil)
	other.Step(200, nil)
	if !sameActive(k.Active(), want) || k.Last() != 0 || len(other.Active()) != 0 {
		t.Error(k.Active(), k.Last(), other.Active())
	}
}

func TestP19_8_NothingPending(t *testing.T) {
	s := newSource(198)
	for range 100 {
		k := keeper(t, api.Rule{Name: "x", Keep: int64(s.Intn(30))})
		for now := range int64(40) {
			list, _, _ := k.Step(now, s.points(6))
			for _, a := range list {
				if a.State != api.SFiring {
					t.Fatal(list)
				}
			}
		}
	}
}

func TestP19_9_Order(t *testing.T) {
	s := newSource(199)
	for range 200 {
		r := s.rule()
		a, b := keeper(t, r), keeper(t, r)
		now := int64(0)
		for range 20 {
			v := s.points(8)
			other := copyPoints(v)
			s.Shuffle(len(other), func(i, j int) { other[i], other[j] = other[j], other[i] })
			list, gone, e := a.Step(now, v)
			list2, gone2, e2 := b.Step(now, other)
			if e != e2 || !sameActive(list, list2) || !sameSets(gone, gone2) {
				t.Fatal(v, list, list2, gone, gone2, e, e2)
			}
			now += int64(s.Intn(9))
		}
	}
}

// spoil writes into all of an answer.
func spoil(list []api.Active, gone [][]api.Label) {
	for i := range list {
		_ = append(list[i].Labels, api.Label{Name: "!"})
		for j := range list[i].Labels {
			list[i].Labels[j] = api.Label{Name: "!", Value: "!"}
		}
		list[i] = api.Active{}
	}
	_ = append(list, api.Active{})
	for _, l := range gone {
		_ = append(l, api.Label{Name: "!"})
		for j := range l {
			l[j] = api.Label{Name: "!", Value: "!"}
		}
	}
}

// TestRules_KeeperMemory: nothing that is handed in is kept, and answers are new memory.
func TestRules_KeeperMemory(t *testing.T) {
	s := newSource(190)
	for range 200 {
		r := s.rule()
		m := &keeperModel{rule: r, last: -1}
		m.rule.Labels = slices.Clone(r.Labels)
		k := keeper(t, r)
		for i := range r.Labels {
			r.Labels[i] = api.Label{Name: "!"}
		}
		now := int64(0)
		for range 20 {
			v := s.points(6)
			if !checkStep(t, k, m, now, v) {
				return
			}
			for i := range v {
				for j := range v[i].Labels {
					v[i].Labels[j] = api.Label{Name: "!"}
				}
			}
			now += 1 + int64(s.Intn(9))
			list, gone, _ := k.Step(now, nil)
			wantList, wantGone, _ := m.step(now, nil)
			if !sameActive(list, wantList) || !sameSets(gone, wantGone) {
				t.Fatal(list, gone)
			}
			spoil(list, gone)
			spoil(k.Active(), nil)
			if !sameActive(k.Active(), m.list) {
				t.Fatal("shared", k.Active(), m.list)
			}
			kept := copyActive(m.list)
			again, e := Restore(m.rule, kept, m.last)
			spoil(kept, nil)
			if e != api.OK || !sameActive(again.Active(), m.list) {
				t.Fatal("kept", again.Active(), m.list, e)
			}
			k = again
			now++
		}
	}
}

// FuzzRules drives a keeper and the model by any bytes.
func FuzzRules(f *testing.F) {
	f.Add([]byte{10, 0, 0, 5, 1, 10, 3})
	f.Add([]byte{0, 20, 1, 255, 2, 4, 200, 100})
	f.Fuzz(func(t *testing.T, b []byte) {
		if len(b) < 2 || len(b) > 200 {
			return
		}
		r := api.Rule{Name: "x", For: int64(b[0]), Keep: int64(b[1])}
		k, m := keeper(t, r), &keeperModel{rule: r, last: -1}
		now := int64(-1)
		for at := 2; at+2 < len(b); at += 3 {
			now += int64(int8(b[at]))
			bits := binary.LittleEndian.Uint16(b[at+1:])
			var v []api.Point
			for i := range 16 {
				if bits>>i&1 == 1 {
					v = append(v, point(float64(i), "a", fmt.Sprint(i%13)))
				}
			}
			if !checkStep(t, k, m, now, v) {
				return
			}
			other, e := Restore(r, k.Active(), k.Last())
			if e != api.OK || !sameActive(other.Active(), k.Active()) {
				t.Fatal(k.Active(), e)
			}
			k = other
		}
	})
}
