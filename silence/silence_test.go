package silence

import (
	"math"
	"slices"
	"strings"
	"testing"

	"tocsin/api"
)

func TestExamples(t *testing.T) {
	b := newBoth(t)
	one := of("a", "1")
	if id, e := b.add(10, hush(0, "1", 0, 50)); id != 1 || e != api.OK {
		t.Error(id, e)
	}
	if x, e := b.s.Get(1); e != api.OK || !sameSilence(x, hush(1, "1", 10, 50)) {
		t.Error(x, e)
	}
	if ids := b.silent(10, one); !slices.Equal(ids, []int64{1}) {
		t.Error(ids)
	}
	if ids := b.silent(50, one); len(ids) != 0 {
		t.Error(ids)
	}
	if id, e := b.set(20, hush(1, "1", 10, 90)); id != 1 || e != api.OK {
		t.Error(id, e)
	}
	if x, _ := b.s.Get(1); !sameSilence(x, hush(1, "1", 10, 90)) {
		t.Error(x)
	}
	if id, e := b.set(20, hush(1, "2", 0, 90)); id != 2 || e != api.OK {
		t.Error(id, e)
	}
	if all := slices.Collect(b.s.All()); !sameSilences(all, []api.Silence{hush(1, "1", 10, 20), hush(2, "2", 20, 90)}) {
		t.Error(all)
	}
	if e := b.expire(30, 2); e != api.OK {
		t.Error(e)
	}
	if e := b.expire(30, 2); e != api.ErrState {
		t.Error(e)
	}
	if id, e := b.add(10, with([]api.Matcher{is(api.MRe, "a", ".*")}, 0, 50)); id != 0 || e != api.ErrForm {
		t.Error(id, e)
	}
}

func TestNilStore(t *testing.T) {
	var s *Store
	for _, now := range []int64{-1, 0, 10, maxTime + 1} {
		if id, e := s.Add(now, hush(0, "1", 0, 50)); id != 0 || e != api.ErrNil {
			t.Error(id, e)
		}
		if id, e := s.Add(now, api.Silence{}); id != 0 || e != api.ErrNil {
			t.Error(id, e)
		}
		if id, e := s.Set(now, hush(1, "1", 0, 50)); id != 0 || e != api.ErrNil {
			t.Error(id, e)
		}
		if e := s.Expire(now, 1); e != api.ErrNil {
			t.Error(e)
		}
		for _, l := range append(wrongSets(), nil, of("a", "1")) {
			if ids, e := s.Silent(now, l); ids != nil || e != api.ErrNil {
				t.Error(ids, e)
			}
		}
		if n, e := s.Sweep(now, now); n != 0 || e != api.ErrNil {
			t.Error(n, e)
		}
	}
	if x, e := s.Get(1); e != api.ErrNil || !sameSilence(x, api.Silence{}) {
		t.Error(x, e)
	}
	for x := range s.All() {
		t.Error(x)
	}
	if s.Len() != 0 || s.Last() != 0 || len(s.Changed()) != 0 || len(s.Records()) != 0 {
		t.Error(s.Len(), s.Last(), s.Changed(), s.Records())
	}
}

// TestP1_ZeroStore: a store that nobody made does not panic.
func TestP1_ZeroStore(t *testing.T) {
	var s Store
	b := both{t, &s, &storeModel{}}
	b.expire(1, 1)
	b.sweep(1, 0)
	b.silent(1, nil)
	b.changed()
	b.add(1, hush(0, "1", 0, 50))
	b.changed()
}

func TestP22_1_New(t *testing.T) {
	b := newBoth(t)
	if b.s.Len() != 0 || b.s.Last() != 0 || len(b.s.Records()) != 0 {
		t.Error(b.s.Len(), b.s.Last(), b.s.Records())
	}
	for x := range b.s.All() {
		t.Error(x)
	}
	b.changed()
	b.silent(5, of("a", "1"))
	b.sweep(5, 0)
}

// some answers a store with silences of each state at 100: one is over, one active, one pending.
func some(t *testing.T) both {
	t.Helper()
	b := newBoth(t)
	b.add(10, hush(0, "1", 0, 100))
	b.add(10, hush(0, "1", 50, 200))
	b.add(10, hush(0, "1", 150, 300))
	b.changed()
	return b
}

// refuses asks a call that must refuse, and looks whether something was changed.
func (b both) refuses(want api.Errno, call func() (int64, api.Errno)) {
	b.t.Helper()
	if id, e := call(); id != 0 || e != want {
		b.t.Errorf("answered %d, %d; want %d", id, e, want)
	}
	if len(b.m.changed) != 0 {
		b.t.Error("the model has changed")
	}
	b.changed()
}

func (b both) refusesAdd(want api.Errno, now int64, x api.Silence) {
	b.t.Helper()
	b.refuses(want, func() (int64, api.Errno) { return b.add(now, x) })
}

func (b both) refusesSet(want api.Errno, now int64, x api.Silence) {
	b.t.Helper()
	b.refuses(want, func() (int64, api.Errno) { return b.set(now, x) })
}

func TestP22_1_AddRefused(t *testing.T) {
	b := some(t)
	for _, now := range []int64{-1, math.MinInt64, maxTime + 1, math.MaxInt64} {
		b.refusesAdd(api.ErrArg, now, hush(0, "1", 0, maxAt))
		b.refusesAdd(api.ErrArg, now, api.Silence{})
		b.refusesAdd(api.ErrArg, now, with(times(17), 0, maxAt))
	}
	for e, lists := range wrongMatchers() {
		for _, l := range lists {
			b.refusesAdd(e, 100, with(l, 0, 200))
			// Two faults at once: the one that is named first.
			b.refusesAdd(e, 100, with(l, -1, maxAt+1))
			b.refusesAdd(e, 100, with(l, 0, 100))
			b.refusesAdd(e, 100, with(l, 300, 200))
			b.refusesAdd(api.ErrArg, -1, with(l, 0, 200))
		}
	}
	for _, x := range [][3]int64{
		{100, -1, 200}, {100, math.MinInt64, 200}, {100, maxAt + 1, maxAt + 2}, {100, math.MaxInt64, math.MaxInt64},
		{100, 0, -1}, {100, 0, math.MinInt64}, {100, 0, maxAt + 1}, {100, 0, math.MaxInt64}, {100, -5, -4},
		{100, 0, 100}, {100, 0, 99}, {100, 0, 0}, {100, 100, 100}, {100, 99, 100}, {0, 0, 0},
		{100, 200, 200}, {100, 200, 199}, {100, 200, 101}, {100, 200, 100}, {100, maxAt, maxAt}, {maxTime, 0, maxTime}, {maxTime, maxAt, maxAt},
	} {
		b.refusesAdd(api.ErrArg, x[0], hush(0, "1", x[1], x[2]))
	}
}

func TestP22_1_Add(t *testing.T) {
	b := newBoth(t)
	next := int64(0)
	for _, x := range [][4]int64{
		{100, 0, 101, 100}, {100, 99, 200, 100}, {100, 100, 200, 100}, {100, 101, 200, 101}, {100, 101, 102, 101}, {100, 0, maxAt, 100},
		{100, maxAt - 1, maxAt, maxAt - 1}, {0, 0, 1, 0}, {0, 0, maxAt, 0}, {maxTime, 0, maxTime + 1, maxTime}, {maxTime, maxTime, maxAt, maxTime}, {5, 0, 10, 5},
	} {
		next++
		if id, e := b.add(x[0], hush(77, "1", x[1], x[2])); id != next || e != api.OK {
			t.Error(x, id, e)
		}
		if got, e := b.s.Get(next); e != api.OK || !sameSilence(got, hush(next, "1", x[3], x[2])) {
			t.Error(x, got, e)
		}
		if b.s.Last() != next || b.s.Len() != int(next) {
			t.Error(b.s.Last(), b.s.Len())
		}
	}
	// What Id is handed in is of no matter.
	for _, id := range []int64{0, 1, -1, math.MinInt64, math.MaxInt64} {
		next++
		if got, e := b.add(5, hush(id, "1", 0, 10)); got != next || e != api.OK {
			t.Error(id, got, e)
		}
	}
	for _, l := range rightMatchers() {
		next++
		if got, e := b.add(5, with(l, 0, 10)); got != next || e != api.OK {
			t.Error(l, got, e)
		}
		if x, _ := b.s.Get(next); !slices.Equal(x.Matchers, l) {
			t.Error(l, x)
		}
	}
	b.changed()
}

// full answers a store with MaxSilences silences, the first one pending until 40, all others active, at 10.
func full(t *testing.T) both {
	t.Helper()
	b := newBoth(t)
	for i := range int64(api.MaxSilences) {
		from := int64(0)
		if i == 0 {
			from = 40
		}
		if id, e := b.add(10, hush(0, "1", from, 50)); id != i+1 || e != api.OK {
			t.Fatal(i, id, e)
		}
	}
	b.changed()
	return b
}

func TestP22_1_Full(t *testing.T) {
	b := full(t)
	b.refusesAdd(api.ErrFull, 10, hush(0, "1", 0, 50))
	b.refusesAdd(api.ErrFull, 1000, hush(0, "1", 0, 5000)) // what is over takes room, too
	b.refusesAdd(api.ErrArg, 10, hush(0, "1", 0, 10))
	b.refusesAdd(api.ErrForm, 10, with(nil, 0, 50))
	b.refusesAdd(api.ErrArg, -1, hush(0, "1", 0, 50))
	// One with other matchers, or an active one with another From, has no room; the same one needs none.
	b.refusesSet(api.ErrFull, 10, hush(1, "2", 0, 50))
	b.refusesSet(api.ErrFull, 10, hush(2, "2", 0, 50))
	b.refusesSet(api.ErrFull, 10, hush(2, "1", 9, 50))
	b.refusesSet(api.ErrArg, 10, hush(2, "2", 0, 10))
	if id, e := b.set(20, hush(2, "1", 10, 60)); id != 2 || e != api.OK {
		t.Error(id, e)
	}
	if id, e := b.set(20, hush(1, "1", 30, 60)); id != 1 || e != api.OK {
		t.Error(id, e)
	}
	b.expire(20, 7)
	if n, e := b.sweep(20, 0); n != 1 || e != api.OK {
		t.Error(n, e)
	}
	if id, e := b.add(20, hush(0, "1", 0, 50)); id != 201 || e != api.OK || b.s.Len() != api.MaxSilences {
		t.Error(id, e)
	}
	b.changed()
	b.refusesAdd(api.ErrFull, 20, hush(0, "1", 0, 50))
}

// TestP22_1_LastId: behind the last id MaxTime there is no other.
func TestP22_1_LastId(t *testing.T) {
	for _, w := range []writing{{x: hush(maxTime, "1", 0, 50)}, {x: api.Silence{Id: -maxTime}}} {
		b := opened(t, w, writing{x: hush(3, "1", 0, 50)})
		if b.s.Last() != maxTime {
			t.Error(b.s.Last())
		}
		b.refusesAdd(api.ErrFull, 10, hush(0, "1", 0, 50))
		b.refusesAdd(api.ErrArg, 10, hush(0, "1", 0, 10))
		b.refusesSet(api.ErrFull, 10, hush(3, "2", 0, 50))
		if id, e := b.set(10, hush(3, "1", 0, 60)); id != 3 || e != api.OK {
			t.Error(id, e)
		}
		if e := b.expire(10, 3); e != api.OK {
			t.Error(e)
		}
		b.changed()
		b.sweep(maxTime, 0)
		b.changed()
		b.refusesAdd(api.ErrFull, 10, hush(0, "1", 0, 50))
	}
	b := opened(t, writing{x: api.Silence{Id: 1 - maxTime}})
	if id, e := b.add(10, hush(0, "1", 0, 50)); id != maxTime || e != api.OK {
		t.Error(id, e)
	}
	b.changed()
	b.refusesAdd(api.ErrFull, 10, hush(0, "1", 0, 50))
}

func TestP22_2_SetRefused(t *testing.T) {
	b := some(t)
	for _, now := range []int64{-1, math.MinInt64, maxTime + 1, math.MaxInt64} {
		for id := range int64(5) {
			b.refusesSet(api.ErrArg, now, hush(id, "1", 50, maxAt))
			b.refusesSet(api.ErrArg, now, api.Silence{Id: id})
		}
	}
	for _, id := range []int64{0, -1, 4, math.MinInt64, math.MaxInt64, maxTime} {
		b.refusesSet(api.ErrNone, 100, hush(id, "1", 0, 200))
		b.refusesSet(api.ErrNone, 100, api.Silence{Id: id, From: -1})
	}
	for _, now := range []int64{100, 101, 1000} {
		b.refusesSet(api.ErrState, now, hush(1, "1", 10, 5000))
		b.refusesSet(api.ErrState, now, hush(1, "2", 10, 5000))
		b.refusesSet(api.ErrState, now, api.Silence{Id: 1, To: -1})
	}
	b.refusesSet(api.ErrState, 200, hush(2, "1", 50, 5000))
	b.refusesSet(api.ErrState, 300, hush(3, "1", 150, 5000))
	// The same matchers: Add's errors of From and To.
	for _, x := range [][3]int64{
		{2, 50, 100}, {2, 50, 99}, {2, 50, 50}, {2, 50, 0}, {2, 50, -1}, {2, 50, maxAt + 1}, {2, 50, math.MaxInt64},
		{3, 150, 150}, {3, 150, 149}, {3, 150, 100}, {3, 0, 100}, {3, 0, 99}, {3, 100, 100}, {3, -1, 200}, {3, maxAt + 1, maxAt + 2}, {3, maxAt, maxAt}, {3, 150, maxAt + 1}, {3, 150, -1}, {3, math.MinInt64, math.MaxInt64},
	} {
		b.refusesSet(api.ErrArg, 100, hush(x[0], "1", x[1], x[2]))
	}
	// Other matchers, or another From of an active one: all of Add's errors.
	for id := int64(2); id <= 3; id++ {
		for e, lists := range wrongMatchers() {
			for _, l := range lists {
				b.refusesSet(e, 100, api.Silence{Id: id, Matchers: l, From: 50, To: 200})
				b.refusesSet(e, 100, api.Silence{Id: id, Matchers: l, From: -1, To: 100})
			}
		}
		for _, x := range [][2]int64{{-1, 200}, {maxAt + 1, maxAt + 1}, {0, -1}, {0, maxAt + 1}, {0, 100}, {0, 99}, {150, 150}, {150, 120}} {
			b.refusesSet(api.ErrArg, 100, hush(id, "2", x[0], x[1]))
		}
	}
	for _, x := range [][2]int64{{-1, 200}, {maxAt + 1, maxAt + 1}, {51, -1}, {49, maxAt + 1}, {49, 100}, {150, 150}} {
		b.refusesSet(api.ErrArg, 100, hush(2, "1", x[0], x[1]))
	}
}

func TestP22_2_Set(t *testing.T) {
	others := func(x ...api.Silence) []api.Silence { return x }
	first, second, third := hush(1, "1", 10, 100), hush(2, "1", 50, 200), hush(3, "1", 150, 300)
	for _, c := range []struct {
		now  int64
		x    api.Silence
		id   int64
		want []api.Silence
	}{
		// An active one, the same From: it stays, below now.
		{100, hush(2, "1", 50, 101), 2, others(first, hush(2, "1", 50, 101), third)},
		{100, hush(2, "1", 50, 400), 2, others(first, hush(2, "1", 50, 400), third)},
		{100, hush(2, "1", 50, maxAt), 2, others(first, hush(2, "1", 50, maxAt), third)},
		{100, hush(2, "1", 50, 200), 2, others(first, second, third)},
		{50, hush(2, "1", 50, 60), 2, others(first, hush(2, "1", 50, 60), third)},
		{199, hush(2, "1", 50, 400), 2, others(first, hush(2, "1", 50, 400), third)},
		{99, hush(1, "1", 10, 100), 1, others(first, second, third)},
		// An active one, another From: a new one.
		{100, hush(2, "1", 49, 400), 4, others(first, hush(2, "1", 50, 100), third, hush(4, "1", 100, 400))},
		{100, hush(2, "1", 100, 400), 4, others(first, hush(2, "1", 50, 100), third, hush(4, "1", 100, 400))},
		{100, hush(2, "1", 120, 400), 4, others(first, hush(2, "1", 50, 100), third, hush(4, "1", 120, 400))},
		{50, hush(2, "1", 0, 400), 4, others(first, hush(2, "1", 50, 50), third, hush(4, "1", 50, 400))},
		// A pending one: any From.
		{100, hush(3, "1", 150, 400), 3, others(first, second, hush(3, "1", 150, 400))},
		{100, hush(3, "1", 101, 102), 3, others(first, second, hush(3, "1", 101, 102))},
		{100, hush(3, "1", 100, 101), 3, others(first, second, hush(3, "1", 100, 101))},
		{100, hush(3, "1", 99, 101), 3, others(first, second, hush(3, "1", 100, 101))},
		{100, hush(3, "1", 0, 400), 3, others(first, second, hush(3, "1", 100, 400))},
		{100, hush(3, "1", maxAt-1, maxAt), 3, others(first, second, hush(3, "1", maxAt-1, maxAt))},
		{49, hush(2, "1", 0, 400), 2, others(first, hush(2, "1", 49, 400), third)},
		{149, hush(3, "1", 0, 400), 3, others(first, second, hush(3, "1", 149, 400))},
		// Other matchers: a new one, and the old one is over.
		{100, hush(2, "2", 50, 400), 4, others(first, hush(2, "1", 50, 100), third, hush(4, "2", 100, 400))},
		{100, hush(2, "2", 120, 400), 4, others(first, hush(2, "1", 50, 100), third, hush(4, "2", 120, 400))},
		{100, hush(3, "2", 150, 400), 4, others(first, second, hush(3, "1", 100, 100), hush(4, "2", 150, 400))},
		{100, hush(3, "2", 0, 400), 4, others(first, second, hush(3, "1", 100, 100), hush(4, "2", 100, 400))},
		{0, hush(1, "2", 0, 400), 4, others(hush(1, "1", 0, 0), second, third, hush(4, "2", 0, 400))},
	} {
		b := some(t)
		if id, e := b.set(c.now, c.x); id != c.id || e != api.OK {
			t.Error(c, id, e)
		}
		if all := slices.Collect(b.s.All()); !sameSilences(all, c.want) {
			t.Errorf("%+v: %v", c, all)
		}
		want := [][]byte{recordModel(c.want[c.id-1])}
		if c.id == 4 {
			want = append(want, recordModel(c.want[c.x.Id-1]))
		}
		if got := b.changed(); !sameRecords(got, want) {
			t.Errorf("%+v: %q", c, got)
		}
		b.silent(c.now, of("a", "1"))
		b.silent(c.now, of("a", "2"))
	}
}

// TestP22_2_SameMatchers: one by one, in their order.
func TestP22_2_SameMatchers(t *testing.T) {
	x, y := is(api.MEq, "a", "1"), is(api.MEq, "b", "1")
	for _, c := range []struct {
		l  []api.Matcher
		id int64
	}{
		{[]api.Matcher{x, y}, 1},
		{[]api.Matcher{y, x}, 2},
		{[]api.Matcher{x}, 2},
		{[]api.Matcher{x, y, y}, 2},
		{[]api.Matcher{x, is(api.MRe, "b", "1")}, 2},
		{[]api.Matcher{x, is(api.MEq, "c", "1")}, 2},
		{[]api.Matcher{x, is(api.MEq, "b", "2")}, 2},
	} {
		b := newBoth(t)
		b.add(10, with([]api.Matcher{x, y}, 20, 50))
		if id, e := b.set(15, api.Silence{Id: 1, Matchers: c.l, From: 20, To: 60}); id != c.id || e != api.OK {
			t.Error(c, id, e)
		}
		b.silent(20, of("a", "1", "b", "1"))
		b.silent(20, of("a", "1", "c", "1"))
		b.changed()
	}
}

func TestP22_2_Expire(t *testing.T) {
	for _, c := range []struct {
		now, id int64
		e       api.Errno
		want    api.Silence
	}{
		{100, 1, api.ErrState, hush(1, "1", 10, 100)},
		{101, 1, api.ErrState, hush(1, "1", 10, 100)},
		{99, 1, api.OK, hush(1, "1", 10, 99)},
		{100, 2, api.OK, hush(2, "1", 50, 100)},
		{50, 2, api.OK, hush(2, "1", 50, 50)},
		{49, 2, api.OK, hush(2, "1", 49, 49)},
		{199, 2, api.OK, hush(2, "1", 50, 199)},
		{100, 3, api.OK, hush(3, "1", 100, 100)},
		{0, 3, api.OK, hush(3, "1", 0, 0)},
		{-1, 3, api.ErrArg, hush(3, "1", 150, 300)},
		{math.MinInt64, 3, api.ErrArg, hush(3, "1", 150, 300)},
		{maxTime + 1, 3, api.ErrArg, hush(3, "1", 150, 300)},
		{maxTime + 1, 1, api.ErrArg, hush(1, "1", 10, 100)},
		{maxTime, 3, api.ErrState, hush(3, "1", 150, 300)},
	} {
		b := some(t)
		if e := b.expire(c.now, c.id); e != c.e {
			t.Error(c, e)
		}
		if got, _ := b.s.Get(c.id); !sameSilence(got, c.want) {
			t.Error(c, got)
		}
		var want [][]byte
		if c.e == api.OK {
			want = [][]byte{recordModel(c.want)}
		}
		if got := b.changed(); !sameRecords(got, want) {
			t.Errorf("%v: %q", c, got)
		}
		if c.e == api.OK {
			b.refuses(api.ErrState, func() (int64, api.Errno) { return 0, b.expire(c.now, c.id) })
			b.refusesSet(api.ErrState, c.now, hush(c.id, "1", 50, 5000))
		}
	}
	b := some(t)
	for _, id := range []int64{0, 4, -1, math.MinInt64, math.MaxInt64} {
		b.refuses(api.ErrNone, func() (int64, api.Errno) { return 0, b.expire(100, id) })
		b.refuses(api.ErrArg, func() (int64, api.Errno) { return 0, b.expire(-1, id) })
	}
}

func TestP22_3_Silent(t *testing.T) {
	b := newBoth(t)
	b.add(10, hush(0, "1", 50, 100))
	b.add(10, with([]api.Matcher{is(api.MRe, "a", "1|2"), is(api.MNe, "b", "x")}, 60, 120))
	b.add(10, hush(0, "2", 10, 70))
	b.add(10, hush(0, "1", 50, 100))
	for _, c := range []struct {
		now  int64
		l    []api.Label
		want []int64
	}{
		{49, of("a", "1"), nil},
		{50, of("a", "1"), []int64{1, 4}},
		{59, of("a", "1"), []int64{1, 4}},
		{60, of("a", "1"), []int64{1, 2, 4}},
		{60, of("a", "1", "b", "x"), []int64{1, 4}},
		{60, of("a", "1", "b", "y"), []int64{1, 2, 4}},
		{60, of("a", "2"), []int64{2, 3}},
		{70, of("a", "2"), []int64{2}},
		{69, of("a", "2", "b", "x"), []int64{3}},
		{99, of("a", "1"), []int64{1, 2, 4}},
		{100, of("a", "1"), []int64{2}},
		{119, of("a", "1"), []int64{2}},
		{120, of("a", "1"), nil},
		{60, of("a", "3"), nil},
		{60, of("b", "1"), nil},
		{60, nil, nil},
		{60, []api.Label{}, nil},
		{0, of("a", "1"), nil},
		{maxTime, of("a", "1"), nil},
		{60, append(of("a", "1"), many(15)...), []int64{1, 2, 4}},
	} {
		if got := b.silent(c.now, c.l); !slices.Equal(got, c.want) {
			t.Error(c, got)
		}
	}
	for _, l := range wrongSets() {
		if ids, e := b.s.Silent(60, l); ids != nil || e != api.ErrLabel {
			t.Error(l, ids, e)
		}
		if ids, e := b.s.Silent(-1, l); ids != nil || e != api.ErrArg {
			t.Error(l, ids, e)
		}
	}
	for _, now := range []int64{-1, math.MinInt64, maxTime + 1, math.MaxInt64} {
		if ids, e := b.s.Silent(now, of("a", "1")); ids != nil || e != api.ErrArg {
			t.Error(now, ids, e)
		}
	}
}

func TestP22_3_Sweep(t *testing.T) {
	list := []api.Silence{hush(0, "1", 0, 99), hush(0, "1", 0, 100), hush(0, "1", 0, 101), hush(0, "1", 0, 11)}
	for _, c := range []struct {
		now, keep int64
		gone      []int64
	}{
		{100, 0, []int64{1, 2, 4}},
		{99, 0, []int64{1, 4}},
		{101, 0, []int64{1, 2, 3, 4}},
		{150, 50, []int64{1, 2, 4}},
		{100, 89, []int64{4}},
		{100, 90, nil},
		{100, 101, nil}, // keep is above now
		{0, maxSpan, nil},
		{0, 0, nil},
		{maxSpan + 100, maxSpan, []int64{1, 2, 4}},
		{maxTime, maxSpan, []int64{1, 2, 3, 4}},
	} {
		b := newBoth(t)
		for _, x := range list {
			b.add(10, x)
		}
		b.changed()
		if n, e := b.sweep(c.now, c.keep); n != len(c.gone) || e != api.OK {
			t.Error(c, n, e)
		}
		for id := int64(1); id <= 4; id++ {
			want := api.OK
			if slices.Contains(c.gone, id) {
				want = api.ErrNone
			}
			if x, e := b.s.Get(id); e != want || e != api.OK && !sameSilence(x, api.Silence{}) {
				t.Error(c, id, x, e)
			}
		}
		var records [][]byte
		for _, id := range c.gone {
			records = append(records, goneModel(id))
		}
		if got := b.changed(); !sameRecords(got, records) {
			t.Errorf("%v: %q", c, got)
		}
		if n, e := b.sweep(c.now, c.keep); n != 0 || e != api.OK {
			t.Error("again", c, n, e)
		}
		b.changed()
	}
}

func TestP22_3_SweepRefused(t *testing.T) {
	b := some(t)
	for _, x := range [][2]int64{{-1, 0}, {math.MinInt64, 0}, {maxTime + 1, 0}, {math.MaxInt64, 0}, {5, -1}, {5, math.MinInt64}, {5, maxSpan + 1}, {maxTime, math.MaxInt64}, {-1, -1}} {
		b.refuses(api.ErrArg, func() (int64, api.Errno) {
			n, e := b.sweep(x[0], x[1])
			return int64(n), e
		})
	}
	// A silence that begins and ends at 0 can be; it goes at 0.
	b = opened(t, writing{x: hush(1, "1", 0, 0)})
	if n, e := b.sweep(0, 1); n != 0 || e != api.OK {
		t.Error(n, e)
	}
	if n, e := b.sweep(0, 0); n != 1 || e != api.OK {
		t.Error(n, e)
	}
}

func TestP22_3_Get(t *testing.T) {
	b := some(t)
	for _, id := range []int64{0, 4, -1, -2, math.MinInt64, math.MaxInt64} {
		if x, e := b.s.Get(id); e != api.ErrNone || x.Matchers != nil || !sameSilence(x, api.Silence{}) {
			t.Error(id, x, e)
		}
	}
	if x, e := b.s.Get(3); e != api.OK || !sameSilence(x, hush(3, "1", 150, 300)) {
		t.Error(x, e)
	}
}

// TestP22_3_All: it may be left, gone through again, and is of the time at which it was asked for.
func TestP22_3_All(t *testing.T) {
	b := some(t)
	want := slices.Collect(b.s.All())
	all := b.s.All()
	for range 2 {
		n := 0
		for x := range all {
			n++
			if !sameSilence(x, want[0]) {
				t.Error(x)
			}
			break
		}
		if n != 1 {
			t.Error(n)
		}
	}
	b.add(20, hush(0, "3", 0, 50))
	b.expire(20, 1)
	b.sweep(30, 0)
	if got := slices.Collect(all); !sameSilences(got, want) {
		t.Error(got)
	}
	seen := 0
	for x := range b.s.All() {
		seen++
		b.expire(30, x.Id)
		b.sweep(30, 0)
	}
	if seen != 3 || b.s.Len() != 0 || b.s.Last() != 4 {
		t.Error(seen, b.s.Len(), b.s.Last())
	}
}

// TestPicked: what is picked may be left, too.
func TestPicked(t *testing.T) {
	var got []int
	for n := range picked(slices.Values([]int{1, 2, 3, 4, 5, 6}), func(n int) bool { return n%2 == 0 }) {
		got = append(got, n)
		if n == 4 {
			break
		}
	}
	if !slices.Equal(got, []int{2, 4}) {
		t.Error(got)
	}
}

// TestP22_7_Expired: what is expired is never told again.
func TestP22_7_Expired(t *testing.T) {
	r := newSource(227)
	for range 100 {
		b := newBoth(t)
		now := int64(r.Intn(50))
		ended := map[int64]int64{}
		for range 60 {
			r.step(b, now)
			if id := int64(r.Intn(6)) + 1; r.Intn(4) == 0 && b.expire(now, id) == api.OK {
				ended[id] = now
			}
			for _, l := range [][]api.Label{of("a", "0"), of("a", "1"), of("b", "1"), of("a", "1", "b", "1")} {
				for _, id := range b.silent(now, l) {
					if at, is := ended[id]; is {
						t.Fatal(id, "was expired at", at, "and is told at", now)
					}
				}
			}
			now += int64(r.Intn(10))
		}
	}
}

// TestP22_8_Ids: Ids rise, and none is used again.
func TestP22_8_Ids(t *testing.T) {
	r := newSource(228)
	for range 60 {
		b := newBoth(t)
		now, last := int64(r.Intn(50)), int64(0)
		for range 80 {
			if id, e := b.add(now, hush(int64(r.Intn(9)), "1", 0, now+1+int64(r.Intn(20)))); e == api.OK {
				if id <= last || b.s.Last() != id {
					t.Fatal(id, last)
				}
				last = id
			}
			r.step(b, now)
			if b.s.Last() < last {
				t.Fatal(b.s.Last(), last)
			}
			last = b.s.Last()
			now += int64(r.Intn(10))
		}
	}
}

// TestP22_9_Refused: a call that is refused changes nothing, and adds no record.
func TestP22_9_Refused(t *testing.T) {
	r := newSource(229)
	refused := 0
	for range 200 {
		s := New()
		now := int64(r.Intn(50))
		for range 60 {
			before, last := slices.Collect(s.All()), s.Last()
			s.Changed()
			x := api.Silence{Id: int64(r.Intn(12)), Matchers: r.matchers(), From: r.time(now), To: r.time(now)}
			var e api.Errno
			switch r.Intn(6) {
			case 0, 1:
				_, e = s.Add(now, x)
			case 2, 3:
				_, e = s.Set(now, x)
			case 4:
				e = s.Expire(now, x.Id)
			default:
				_, e = s.Sweep(now, int64(r.Intn(20))-1)
			}
			if e != api.OK {
				refused++
				if !sameSilences(slices.Collect(s.All()), before) || s.Last() != last || len(s.Changed()) != 0 {
					t.Fatal(now, x, e)
				}
			}
			now += int64(r.Intn(10))
		}
	}
	if refused < 1000 {
		t.Error(refused)
	}
}

func TestP22_1_Model(t *testing.T) {
	r := newSource(221)
	for range 300 {
		b := newBoth(t)
		now := int64(r.Intn(100)) - 1
		if r.Intn(20) == 0 {
			now = maxTime - 200
		}
		for range 60 {
			r.step(b, now)
			if r.Intn(5) == 0 {
				b.changed()
			}
			if t.Failed() {
				return
			}
			now += int64(r.Intn(14)) - 2
		}
		b.changed()
	}
}

// spoil writes into all of a silence, and behind its matchers.
func spoil(x api.Silence) {
	for i := range x.Matchers {
		x.Matchers[i] = is(api.MNe, "spoilt", "x")
	}
	_ = append(x.Matchers, is(api.MEq, "more", "x"))
}

func spoilBytes(l [][]byte) {
	for _, b := range l {
		for i := range b {
			b[i] = 0xff
		}
		_ = append(b, "more"...)
	}
	_ = append(l, []byte("more"))
}

// TestRules_Memory: nothing that is handed in is kept, and what is answered is new.
func TestRules_Memory(t *testing.T) {
	b := newBoth(t)
	room := func() []api.Matcher { return append(make([]api.Matcher, 0, 4), is(api.MEq, "a", "1")) }
	unchanged := func() {
		t.Helper()
		tells(t, b.s, b.m)
		b.silent(20, of("a", "1"))
	}
	x := with(room(), 0, 50)
	b.add(10, x)
	spoil(x)
	unchanged()
	y := api.Silence{Id: 1, Matchers: room(), From: 10, To: 90}
	b.set(20, y)
	spoil(y)
	unchanged()
	z := api.Silence{Id: 1, Matchers: append(room(), is(api.MNe, "b", "")), To: 90}
	b.set(20, z)
	spoil(z)
	unchanged()
	for id := int64(1); id <= 2; id++ {
		got, _ := b.s.Get(id)
		spoil(got)
	}
	unchanged()
	all := b.s.All()
	for got := range all {
		spoil(got)
	}
	if got := slices.Collect(all); !sameSilences(got, b.m.list) {
		t.Error(got)
	}
	unchanged()
	spoilBytes(b.s.Records())
	unchanged()
	spoilBytes(b.changed())
	unchanged()
	ids, _ := b.s.Silent(30, of("a", "1", "b", "1"))
	for i := range ids {
		ids[i] = 99
	}
	if got := b.silent(30, of("a", "1", "b", "1")); !slices.Equal(got, []int64{2}) {
		t.Error(got)
	}
}

// TestRules_RecordMemory: bytes and silences that are read and written share nothing.
func TestRules_RecordMemory(t *testing.T) {
	x := hush(1, "1", 0, 50)
	bytes, _ := Record(x)
	if !sameSilence(x, hush(1, "1", 0, 50)) {
		t.Error("changed", x)
	}
	kept := strings.Clone(string(bytes))
	got, _ := Read(bytes)
	s, _, _ := Open([][]byte{bytes})
	if string(bytes) != kept {
		t.Errorf("changed %q", bytes)
	}
	spoilBytes([][]byte{bytes})
	if !sameSilence(got, x) {
		t.Error(got)
	}
	tells(t, s, &storeModel{list: []api.Silence{x}, last: 1})
	spoil(got)
	spoil(x)
	again, _ := Read([]byte(kept))
	if !sameSilence(again, hush(1, "1", 0, 50)) {
		t.Error(again)
	}
}

// TestRules_Apart: two stores know nothing of each other.
func TestRules_Apart(t *testing.T) {
	b := some(t)
	s, _, _ := Open(b.s.Records())
	s.Add(20, hush(0, "9", 0, 90))
	s.Expire(20, 2)
	s.Sweep(5000, 0)
	tells(t, b.s, b.m)
	b.changed()
}
