package alerts

import (
	"encoding/binary"
	"fmt"
	"iter"
	"math"
	"slices"
	"strings"
	"testing"

	"tocsin/api"
)

// filled answers a set of resolve 100 that has these alerts.
func filled(t *testing.T, now int64, l ...api.Alert) *Set {
	t.Helper()
	s := New(100, api.MaxAlerts)
	for _, a := range l {
		if e := s.Put(now, a); e != api.OK {
			t.Fatal(a, e)
		}
	}
	return s
}

func TestExamples(t *testing.T) {
	s := New(100, 5)
	for _, x := range []struct {
		now, start, end int64
		want            api.Alert
	}{
		{10, 0, 0, alert("1", 10, 110)},
		{50, 20, 0, alert("1", 10, 150)},
		{60, 0, 60, alert("1", 10, 60)},
		{70, 0, 0, alert("1", 70, 170)},
	} {
		if e := s.Put(x.now, alert("1", x.start, x.end)); e != api.OK {
			t.Error(x, e)
		}
		tells(t, s, []api.Alert{x.want})
		if x.now == 60 && len(s.Firing(60)) != 0 {
			t.Error("it is resolved", s.Firing(60))
		}
	}
}

func TestNilSet(t *testing.T) {
	var s *Set
	for _, now := range []int64{-1, 0, maxTime + 1} {
		if e := s.Put(now, alert("1", 0, 0)); e != api.ErrNil {
			t.Error(e)
		}
		if e := s.Put(now, api.Alert{Start: -1}); e != api.ErrNil {
			t.Error(e)
		}
		if n, e := s.Sweep(now, now); n != 0 || e != api.ErrNil {
			t.Error(n, e)
		}
	}
	if a, is := s.Get(of("a", "1")); is || !sameAlert(a, api.Alert{}) {
		t.Error(a, is)
	}
	if l := s.Firing(0); len(l) != 0 {
		t.Error(l)
	}
	for a := range s.All() {
		t.Error(a)
	}
	if s.Len() != 0 {
		t.Error(s.Len())
	}
}

// TestP1_ZeroSet: a set that nobody made does not panic.
func TestP1_ZeroSet(t *testing.T) {
	var s Set
	s.Put(5, alert("1", 0, 0))
	s.Put(5, alert("1", 1, 9))
	s.Sweep(5, 0)
	s.Get(of("a", "1"))
	s.Firing(5)
	for range s.All() {
	}
	if s.Len() != 0 {
		t.Error(s.Len())
	}
}

func TestP21_1_New(t *testing.T) {
	for _, x := range []struct {
		resolve int64
		most    int
		is      bool
	}{
		{1, 1, true}, {maxSpan, 500, true}, {1, 500, true}, {maxSpan, 1, true}, {100, 5, true},
		{0, 1, false}, {-1, 1, false}, {math.MinInt64, 1, false}, {maxSpan + 1, 1, false}, {math.MaxInt64, 1, false},
		{1, 0, false}, {1, -1, false}, {1, math.MinInt, false}, {1, 501, false}, {1, math.MaxInt, false},
		{0, 0, false}, {maxSpan + 1, 501, false},
	} {
		s := New(x.resolve, x.most)
		if (s != nil) != x.is {
			t.Error(x, s)
		}
		if s.Len() != 0 {
			t.Error(x, s.Len())
		}
	}
	for _, resolve := range []int64{1, maxSpan} {
		s := New(resolve, 1)
		s.Put(7, alert("1", 0, 0))
		tells(t, s, []api.Alert{alert("1", 7, 7+resolve)})
	}
}

// refused is a Put and its error.
type refused struct {
	now int64
	a   api.Alert
	e   api.Errno
}

func checkRefused(t *testing.T, s *Set, l []refused) {
	t.Helper()
	want := slices.Collect(s.All())
	for _, x := range l {
		if e := s.Put(x.now, x.a); e != x.e {
			t.Error(x, e)
		}
		tells(t, s, want)
	}
}

func TestP21_1_PutRefused(t *testing.T) {
	s := filled(t, 10, alert("1", 0, 0), alert("2", 5, 6))
	l := []refused{
		{-1, alert("3", 0, 0), api.ErrArg},
		{math.MinInt64, alert("1", 0, 0), api.ErrArg},
		{maxTime + 1, alert("3", 0, 0), api.ErrArg},
		{math.MaxInt64, alert("1", 0, 0), api.ErrArg},
		{20, api.Alert{}, api.ErrLabel},
		{20, api.Alert{Labels: []api.Label{}}, api.ErrLabel},
		{20, alert("3", -1, 0), api.ErrArg},
		{20, alert("3", -1, 50), api.ErrArg},
		{20, alert("3", 0, -1), api.ErrArg},
		{20, alert("3", math.MinInt64, math.MinInt64), api.ErrArg},
		{20, alert("3", maxAt+1, 0), api.ErrArg},
		{20, alert("3", maxAt+1, maxAt+1), api.ErrArg},
		{20, alert("3", 0, maxAt+1), api.ErrArg},
		{20, alert("3", math.MaxInt64, math.MaxInt64), api.ErrArg},
		{20, alert("3", 50, 49), api.ErrArg},
		{20, alert("3", 2, 1), api.ErrArg},
		{20, alert("3", 0, 19), api.ErrArg},  // below the Start that 0 becomes
		{20, alert("1", 0, 1), api.ErrArg},   // of one that is there, too
		{20, alert("3", 121, 0), api.ErrArg}, // above the End that 0 becomes
		{20, alert("1", maxAt, 0), api.ErrArg},
		{maxTime, alert("3", maxTime+101, 0), api.ErrArg},
	}
	for _, set := range wrongSets() {
		l = append(l, refused{20, api.Alert{Labels: set}, api.ErrLabel})
		// Two faults at once: the one that is named first.
		l = append(l, refused{-1, api.Alert{Labels: set}, api.ErrArg})
		l = append(l, refused{20, api.Alert{Labels: set, Start: -1}, api.ErrLabel})
		l = append(l, refused{20, api.Alert{Labels: set, Start: 9, End: 8}, api.ErrLabel})
		l = append(l, refused{20, api.Alert{Labels: set, End: 19}, api.ErrLabel})
	}
	l = append(l, refused{maxTime + 1, api.Alert{End: -1}, api.ErrArg}, refused{0, api.Alert{End: -1}, api.ErrLabel})
	checkRefused(t, s, l)
}

func TestP21_1_Bounds(t *testing.T) {
	for _, x := range []struct {
		now, start, end int64
		want            api.Alert
	}{
		{0, 0, 0, alert("1", 0, 100)},
		{maxTime, 0, 0, alert("1", maxTime, maxTime+100)},
		{20, 0, maxAt, alert("1", 20, maxAt)},
		{20, maxAt, maxAt, alert("1", maxAt, maxAt)},
		{20, 1, maxAt, alert("1", 1, maxAt)},
		{20, 1, 1, alert("1", 1, 1)},
		{20, 1, 2, alert("1", 1, 2)},
		{20, 50, 50, alert("1", 50, 50)},
		{20, 0, 20, alert("1", 20, 20)},
		{20, 0, 21, alert("1", 20, 21)},
		{20, 120, 0, alert("1", 120, 120)},
		{20, 119, 0, alert("1", 119, 120)},
		{20, 1, 0, alert("1", 1, 120)},
		{0, 0, 1, alert("1", 0, 1)},
		{0, 1, 0, alert("1", 1, 100)},
		{maxTime, maxTime + 100, 0, alert("1", maxTime+100, maxTime+100)},
	} {
		s := New(100, 1)
		if e := s.Put(x.now, alert("1", x.start, x.end)); e != api.OK {
			t.Error(x, e)
		}
		tells(t, s, []api.Alert{x.want})
	}
	s := New(maxSpan, 1)
	if e := s.Put(maxTime, alert("1", maxAt, 0)); e != api.OK {
		t.Error(e)
	}
	tells(t, s, []api.Alert{alert("1", maxAt, maxAt)})
}

func TestP21_1_Labels(t *testing.T) {
	s := New(100, 500)
	sets := [][]api.Label{many(16), of("a", strings.Repeat("v", 256)), of(strings.Repeat("n", 64), "1"), of("__name__", "up"), of("a", "\x00"), of("a", `1",b="2`), of("a", "1", "b", "2"), of("a", "1"), of("a", "12"), of("b", "1")}
	for i, set := range sets {
		if e := s.Put(int64(i+1), api.Alert{Labels: set}); e != api.OK || s.Len() != i+1 {
			t.Error(set, e, s.Len())
		}
	}
	for i, set := range sets {
		if a, is := s.Get(set); !is || !sameAlert(a, api.Alert{Labels: set, Start: int64(i + 1), End: int64(i + 101)}) {
			t.Error(set, a, is)
		}
	}
}

func TestP21_1_Full(t *testing.T) {
	for _, most := range []int{1, 2, 5, api.MaxAlerts} {
		s := New(100, most)
		for i := range most {
			if e := s.Put(10, alert(fmt.Sprint(i), 0, 0)); e != api.OK {
				t.Fatal(most, i, e)
			}
		}
		checkRefused(t, s, []refused{
			{10, alert("x", 0, 0), api.ErrFull},
			{500, alert("x", 0, 0), api.ErrFull}, // resolved ones take room, too
			{10, alert("x", 5, 4), api.ErrArg},
			{10, alert("x", 0, 9), api.ErrArg},
			{10, api.Alert{}, api.ErrLabel},
			{-1, alert("x", 0, 0), api.ErrArg},
		})
		// One that is there needs no room.
		if e := s.Put(20, alert("0", 0, 0)); e != api.OK || s.Len() != most {
			t.Error(most, e, s.Len())
		}
		if e := s.Put(500, alert("0", 0, 0)); e != api.OK || s.Len() != most {
			t.Error(most, e, s.Len())
		}
		if a, is := s.Get(of("a", "0")); !is || !sameAlert(a, alert("0", 500, 600)) {
			t.Error(a, is)
		}
		if n, e := s.Sweep(599, 0); n != most-1 || e != api.OK {
			t.Error(n, e)
		}
		if e := s.Put(600, alert("x", 0, 0)); e != api.OK && most > 1 || most == 1 && e != api.ErrFull {
			t.Error(most, e)
		}
	}
}

func TestP21_1_Again(t *testing.T) {
	for _, x := range []struct {
		now, start, end int64
		want            api.Alert
	}{
		// The old one is from 50 to 150.
		{60, 0, 0, alert("1", 50, 160)},
		{60, 40, 0, alert("1", 40, 160)},
		{60, 55, 0, alert("1", 50, 160)},
		{60, 0, 60, alert("1", 50, 60)},
		{60, 0, 61, alert("1", 50, 61)},
		{60, 1, 2, alert("1", 1, 2)},
		{60, 52, 53, alert("1", 50, 53)},
		{60, 50, 50, alert("1", 50, 50)},
		{60, 200, 300, alert("1", 50, 300)},
		{0, 0, 0, alert("1", 0, 100)},
		{10, 0, 0, alert("1", 10, 110)},
		{149, 0, 0, alert("1", 50, 249)},
		{149, 0, 149, alert("1", 50, 149)},
		{149, 20, 300, alert("1", 20, 300)},
		{150, 0, 0, alert("1", 150, 250)},
		{150, 0, 150, alert("1", 150, 150)},
		{150, 60, 100, alert("1", 60, 100)},
		{150, 20, 0, alert("1", 20, 250)},
		{151, 0, 0, alert("1", 151, 251)},
		{151, 140, 0, alert("1", 140, 251)},
		{maxTime, 0, 0, alert("1", maxTime, maxTime+100)},
	} {
		s := filled(t, 50, alert("0", 0, 0), alert("1", 0, 0), alert("2", 0, 0))
		if e := s.Put(x.now, alert("1", x.start, x.end)); e != api.OK {
			t.Error(x, e)
		}
		tells(t, s, []api.Alert{alert("0", 50, 150), x.want, alert("2", 50, 150)})
	}
}

func TestP21_2_Sweep(t *testing.T) {
	list := []api.Alert{alert("1", 1, 99), alert("2", 1, 100), alert("3", 1, 101), alert("4", 1, 1)}
	for _, x := range []struct {
		now, keep int64
		stay      []int
	}{
		{100, 0, []int{2}},
		{99, 0, []int{1, 2}},
		{101, 0, nil},
		{150, 50, []int{2}},
		{100, 99, []int{0, 1, 2}},
		{100, 100, []int{0, 1, 2, 3}},
		{100, 101, []int{0, 1, 2, 3}}, // keep is above now
		{0, maxSpan, []int{0, 1, 2, 3}},
		{0, 0, []int{0, 1, 2, 3}},
		{1, 0, []int{0, 1, 2}},
		{maxSpan + 100, maxSpan, []int{2}},
		{maxTime, maxSpan, nil},
		{maxTime, 0, nil},
	} {
		s := filled(t, 1, list...)
		var want []api.Alert
		for _, i := range x.stay {
			want = append(want, list[i])
		}
		if n, e := s.Sweep(x.now, x.keep); n != len(list)-len(want) || e != api.OK {
			t.Error(x, n, e)
		}
		tells(t, s, want)
		for _, a := range list {
			if _, is := s.Get(a.Labels); is != slices.ContainsFunc(want, func(b api.Alert) bool { return sameAlert(a, b) }) {
				t.Error(x, a, is)
			}
		}
		if n, e := s.Sweep(x.now, x.keep); n != 0 || e != api.OK {
			t.Error("again", x, n, e)
		}
	}
}

func TestP21_2_SweepRefused(t *testing.T) {
	s := filled(t, 1, alert("1", 1, 1))
	for _, x := range [][2]int64{{-1, 0}, {math.MinInt64, 0}, {maxTime + 1, 0}, {math.MaxInt64, 0}, {5, -1}, {5, math.MinInt64}, {5, maxSpan + 1}, {5, math.MaxInt64}, {-1, -1}, {math.MaxInt64, math.MinInt64}} {
		if n, e := s.Sweep(x[0], x[1]); n != 0 || e != api.ErrArg {
			t.Error(x, n, e)
		}
		tells(t, s, []api.Alert{alert("1", 1, 1)})
	}
	if n, e := New(1, 1).Sweep(5, 0); n != 0 || e != api.OK {
		t.Error(n, e)
	}
}

func TestP21_2_Get(t *testing.T) {
	s := filled(t, 10, alert("1", 0, 0), api.Alert{Labels: of("a", "1", "b", "2")})
	others := append(wrongSets(), nil, []api.Label{}, of("a", "2"), of("b", "1"), of("a", "1", "b", "3"), of("a", "1", "c", "2"), of("b", "2"), of("b", "2", "a", "1"), many(16), many(1000))
	for _, l := range others {
		if a, is := s.Get(l); is || a.Labels != nil || a.Start != 0 || a.End != 0 {
			t.Error(l, a, is)
		}
	}
	if a, is := s.Get(of("a", "1", "b", "2")); !is || !sameAlert(a, api.Alert{Labels: of("a", "1", "b", "2"), Start: 10, End: 110}) {
		t.Error(a, is)
	}
}

func TestP21_2_Firing(t *testing.T) {
	b := api.Alert{Labels: of("b", "0"), Start: 60, End: 60}
	s := filled(t, 1, b, alert("2", 50, 100), alert("1", 60, 70), alert("10", 1, maxAt))
	for now, want := range map[int64][]string{
		math.MinInt64: nil, -1: nil, 0: nil, 1: {"10"}, 49: {"10"}, 50: {"10", "2"}, 59: {"10", "2"}, 60: {"1", "10", "2"}, 69: {"1", "10", "2"}, 70: {"10", "2"}, 99: {"10", "2"}, 100: {"10"}, maxTime: {"10"}, maxAt - 1: {"10"}, maxAt: nil, math.MaxInt64: nil,
	} {
		var got []string
		for _, a := range s.Firing(now) {
			got = append(got, a.Labels[0].Value)
		}
		if !slices.Equal(got, want) {
			t.Error(now, got, want)
		}
	}
	if l := New(1, 1).Firing(0); len(l) != 0 {
		t.Error(l)
	}
}

// TestP21_2_All: rising by label set, which is not the order of their texts.
func TestP21_2_All(t *testing.T) {
	sets := [][]api.Label{of("B", "2"), of("a", "\x00"), of("a", "!"), of("a", `"`), of("a", "1"), of("a", "1", "b", "1"), of("a", "1", "b", "2"), of("a", "1", "c", "0"), of("a", "10"), of("a", "2"), of("a", `\`), of("a", "é"), of("a0", "1"), of("aa", "0"), of("b", "1")}
	for turn := range len(sets) {
		s := New(100, 50)
		var want []api.Alert
		for i := range sets {
			s.Put(5, api.Alert{Labels: sets[(7*i+turn)%len(sets)]})
			want = append(want, api.Alert{Labels: sets[i], Start: 5, End: 105})
		}
		tells(t, s, want)
		if !sameAlerts(s.Firing(5), want) {
			t.Error(s.Firing(5))
		}
	}
	for a := range New(1, 1).All() {
		t.Error(a)
	}
}

// TestP21_2_AllLeft: All may be left, gone through again, and is of the time at which it was asked for.
func TestP21_2_AllLeft(t *testing.T) {
	s := filled(t, 10, alert("1", 0, 0), alert("2", 0, 0), alert("3", 0, 0))
	want := slices.Collect(s.All())
	all := s.All()
	for range 2 {
		n := 0
		for a := range all {
			n++
			if !sameAlert(a, want[0]) {
				t.Error(a)
			}
			break
		}
		if n != 1 {
			t.Error(n)
		}
	}
	s.Put(20, alert("0", 0, 0))
	s.Put(20, alert("1", 0, 20))
	s.Sweep(20, 0)
	if got := slices.Collect(all); !sameAlerts(got, want) {
		t.Error(got)
	}
	seen := 0
	for a := range s.All() {
		seen++
		if e := s.Put(30, api.Alert{Labels: a.Labels, End: 30}); e != api.OK {
			t.Error(e)
		}
		s.Sweep(30, 0)
	}
	if seen != 3 || s.Len() != 0 {
		t.Error(seen, s.Len())
	}
}

// checkSet does the same to a set and its model, and holds one against the other.
func checkSet(t *testing.T, s *Set, m *setModel, kind int, now, keep int64, a api.Alert) bool {
	t.Helper()
	before := copyAlerts([]api.Alert{a})
	switch kind {
	case 0:
		n, e := s.Sweep(now, keep)
		if wantN, want := m.sweep(now, keep); n != wantN || e != want {
			t.Errorf("Sweep(%d, %d) = %d, %d; want %d, %d", now, keep, n, e, wantN, want)
			return false
		}
	case 1:
		got, is := s.Get(a.Labels)
		if at := m.find(a.Labels); is != (at >= 0) || is && !sameAlert(got, m.list[at]) {
			t.Errorf("Get(%v) = %v, %v", a.Labels, got, is)
			return false
		}
	default:
		e := s.Put(now, a)
		if want := m.put(now, a); e != want {
			t.Errorf("Put(%d, %v) = %d; want %d", now, a, e, want)
			return false
		}
	}
	if !sameAlerts([]api.Alert{a}, before) {
		t.Error("changed", before, a)
	}
	if got := s.Firing(now); !sameAlerts(got, m.firing(now)) {
		t.Errorf("Firing(%d) = %v; want %v", now, got, m.firing(now))
		return false
	}
	return tells(t, s, m.list)
}

func TestP21_1_Model(t *testing.T) {
	r := newSource(211)
	for range 600 {
		resolve, most := int64(1+r.Intn(50)), 1+r.Intn(12)
		s, m := New(resolve, most), &setModel{resolve: resolve, most: most}
		now := int64(r.Intn(100)) - 1
		if r.Intn(20) == 0 {
			now = maxTime - 200
		}
		for range 60 {
			a := api.Alert{Labels: r.set(), Start: r.time(now), End: r.time(now)}
			if !checkSet(t, s, m, r.Intn(8), now, int64(r.Intn(40))-1, a) {
				return
			}
			now += int64(r.Intn(14)) - 2
		}
	}
}

// TestP21_3_Few: one alert a label set, at most most of them; Start is never above End.
func TestP21_3_Few(t *testing.T) {
	r := newSource(213)
	for range 200 {
		most := 1 + r.Intn(6)
		s := New(int64(1+r.Intn(50)), most)
		now := int64(r.Intn(50))
		for range 60 {
			s.Put(now, api.Alert{Labels: r.set(), Start: r.time(now), End: r.time(now)})
			all := slices.Collect(s.All())
			if len(all) > most || s.Len() != len(all) {
				t.Fatal(all, most)
			}
			for i, a := range all {
				if a.Start > a.End || i > 0 && !ahead(all[i-1].Labels, a.Labels) {
					t.Fatal(all)
				}
			}
			now = max(0, now+int64(r.Intn(14))-4)
		}
	}
}

// TestP21_4_Resolve: an alert that comes again without an end fires until resolve has gone by since it came last.
func TestP21_4_Resolve(t *testing.T) {
	r := newSource(214)
	for range 300 {
		resolve := int64(1 + r.Intn(50))
		s := New(resolve, 3)
		now := int64(r.Intn(10))
		first, last := now, int64(-1)
		for range 40 {
			if last >= 0 && now >= last+resolve {
				first = now
			}
			if e := s.Put(now, alert("1", 0, 0)); e != api.OK {
				t.Fatal(e)
			}
			last = now
			for _, at := range []int64{first, last, last + resolve - 1} {
				if l := s.Firing(at); len(l) != 1 {
					t.Fatal(resolve, first, last, at, l)
				}
			}
			for _, at := range []int64{first - 1, last + resolve} {
				if l := s.Firing(at); len(l) != 0 {
					t.Fatal(resolve, first, last, at, l)
				}
			}
			now += int64(r.Intn(int(resolve) + 10))
		}
	}
}

// TestP21_5_Sweep: none goes that fires; swept again at once none goes.
func TestP21_5_Sweep(t *testing.T) {
	r := newSource(215)
	for range 300 {
		s := New(int64(1+r.Intn(50)), 20)
		now := int64(r.Intn(50))
		for range 30 {
			s.Put(now, api.Alert{Labels: r.set(), Start: r.time(now), End: r.time(now)})
			now += int64(r.Intn(8))
		}
		keep := int64(r.Intn(3) * r.Intn(60))
		fires, had := s.Firing(now), s.Len()
		n, e := s.Sweep(now, keep)
		if e != api.OK || n != had-s.Len() || !sameAlerts(s.Firing(now), fires) {
			t.Fatal(n, e, fires, s.Firing(now))
		}
		if n, e := s.Sweep(now, keep); n != 0 || e != api.OK {
			t.Fatal(n, e)
		}
	}
}

// TestP21_6_Others: a Put that is refused changes nothing, one that is not changes no other alert.
func TestP21_6_Others(t *testing.T) {
	r := newSource(216)
	for range 200 {
		s := New(int64(1+r.Intn(50)), 1+r.Intn(8))
		now := int64(r.Intn(50))
		for range 60 {
			before := slices.Collect(s.All())
			a := api.Alert{Labels: r.set(), Start: r.time(now), End: r.time(now)}
			e := s.Put(now, a)
			behind := slices.Collect(s.All())
			if e == api.OK {
				isIt := func(b api.Alert) bool { return slices.Equal(a.Labels, b.Labels) }
				before, behind = slices.DeleteFunc(before, isIt), slices.DeleteFunc(behind, isIt)
			}
			if !sameAlerts(before, behind) {
				t.Fatal(a, e, before, behind)
			}
			now = max(0, now+int64(r.Intn(14))-4)
		}
	}
}

// spoil writes into all of an alert, and behind its labels.
func spoil(a api.Alert) {
	for i := range a.Labels {
		a.Labels[i] = api.Label{Name: "spoilt", Value: "x"}
	}
	_ = append(a.Labels, of("more", "x")...)
}

// TestRules_Memory: nothing that is handed in is kept or changed, and what is answered is new.
func TestRules_Memory(t *testing.T) {
	s := New(100, 5)
	room := make([]api.Label, 1, 4)
	room[0] = api.Label{Name: "a", Value: "1"}
	a := api.Alert{Labels: room}
	s.Put(10, a)
	if !slices.Equal(room, of("a", "1")) || a.Start != 0 || a.End != 0 {
		t.Error("changed", a)
	}
	spoil(a)
	want := []api.Alert{alert("1", 10, 110)}
	tells(t, s, want)
	again := of("a", "1")
	s.Put(20, api.Alert{Labels: again})
	spoil(api.Alert{Labels: again})
	want[0].End = 120
	tells(t, s, want)

	key := of("a", "1")
	one, _ := s.Get(key)
	if !slices.Equal(key, of("a", "1")) {
		t.Error("changed", key)
	}
	spoil(one)
	tells(t, s, want)
	for _, one := range s.Firing(20) {
		spoil(one)
	}
	tells(t, s, want)
	all := s.All()
	for one := range all {
		spoil(one)
	}
	if got := slices.Collect(all); !sameAlerts(got, want) {
		t.Error(got)
	}
	tells(t, s, want)
}

// TestRules_Apart: two sets know nothing of each other.
func TestRules_Apart(t *testing.T) {
	s, other := New(100, 5), New(50, 1)
	s.Put(10, alert("1", 0, 0))
	other.Put(20, alert("1", 0, 0))
	other.Put(20, alert("2", 0, 0))
	tells(t, s, []api.Alert{alert("1", 10, 110)})
	tells(t, other, []api.Alert{alert("1", 20, 70)})
	other.Sweep(70, 0)
	tells(t, s, []api.Alert{alert("1", 10, 110)})
	var _ iter.Seq[api.Alert] = s.All()
}

// FuzzAlerts holds a set against its model; each call is made of sixteen bytes.
func FuzzAlerts(f *testing.F) {
	f.Add([]byte("0123456789abcdef0123456789ABCDEF"), int64(10), 3)
	f.Add([]byte("\x02\x01\x0a\x00\x00\x00\x00\x00\x00\x00\x00\x00\x00\x00\x00\x00\x00\x01\x20\x00"), int64(1), 1)
	f.Fuzz(func(t *testing.T, b []byte, resolve int64, most int) {
		s := New(resolve, most)
		if s == nil {
			return
		}
		m := &setModel{resolve: resolve, most: most}
		sets := append(wrongSets(), nil, of("a", "1"), of("a", "2"), of("a", "1", "b", "1"), of("b", "1"), many(16))
		for ; len(b) >= 16; b = b[16:] {
			number := func(at int) int64 {
				n := int64(int16(binary.LittleEndian.Uint16(b[at:])))
				switch b[at+2] % 8 {
				case 6:
					n += maxTime
				case 7:
					n += maxAt
				}
				return n
			}
			a := api.Alert{Labels: sets[int(b[1])%len(sets)], Start: number(2), End: number(5)}
			if !checkSet(t, s, m, int(b[0]%6), number(8), number(11), a) {
				return
			}
		}
	})
}
