package store

import (
	"math"
	"math/rand"
	"slices"
	"strconv"
	"strings"
	"testing"

	"tocsin/api"
)

func checkMerge(t *testing.T, lists ...[]api.Series) {
	t.Helper()
	e := modelFault(lists...)
	got, ge := Merge(lists...)
	if ge != e {
		t.Fatalf("Merge(%v): %d, not %d", lists, ge, e)
	}
	if e != api.OK {
		if got != nil {
			t.Fatalf("Merge(%v): %v beside an error", lists, got)
		}
		return
	}
	if want := modelMerge(lists...); !same(got, want) {
		t.Fatalf("Merge(%v): %v, not %v", lists, got, want)
	}
}

func TestP11_2_Merge(t *testing.T) {
	a, b, c := of("a", "1"), of("a", "2"), of("b", "1")
	one := []api.Series{ser(b, at(1, 1)), ser(a, at(5, 1), at(6, 2), at(9, 3))}
	two := []api.Series{ser(a, at(4, 40), at(6, 60), at(10, stale)), ser(c, at(0, 0))}
	three := []api.Series{ser(a, at(6, 600), at(9, theNaN)), ser(b, at(1<<50, 7))}
	for _, x := range []struct {
		lists [][]api.Series
		want  []api.Series
	}{
		{nil, nil},
		{[][]api.Series{nil}, nil},
		{[][]api.Series{nil, {}, nil}, nil},
		{[][]api.Series{one}, []api.Series{one[1], one[0]}},
		{[][]api.Series{one, nil}, []api.Series{one[1], one[0]}},
		{[][]api.Series{one, two}, []api.Series{ser(a, at(4, 40), at(5, 1), at(6, 60), at(9, 3), at(10, stale)), one[0], two[1]}},
		{[][]api.Series{two, one}, []api.Series{ser(a, at(4, 40), at(5, 1), at(6, 2), at(9, 3), at(10, stale)), one[0], two[1]}},
		{[][]api.Series{one, two, three}, []api.Series{ser(a, at(4, 40), at(5, 1), at(6, 600), at(9, theNaN), at(10, stale)), ser(b, at(1, 1), at(1<<50, 7)), two[1]}},
		{[][]api.Series{three, one, two}, []api.Series{ser(a, at(4, 40), at(5, 1), at(6, 60), at(9, 3), at(10, stale)), ser(b, at(1, 1), at(1<<50, 7)), two[1]}},
		// A series that is twice in one list: the later one tells.
		{[][]api.Series{{ser(a, at(1, 1), at(2, 2)), ser(a, at(2, 3), at(4, 4))}}, []api.Series{ser(a, at(1, 1), at(2, 3), at(4, 4))}},
		{[][]api.Series{{ser(a, at(2, 3)), ser(b, at(1, 1)), ser(a, at(1, 1), at(2, 2))}}, []api.Series{ser(a, at(1, 1), at(2, 2)), ser(b, at(1, 1))}},
		// A series without samples.
		{[][]api.Series{{ser(a)}}, nil},
		{[][]api.Series{{ser(a), ser(b, at(1, 1))}, {ser(b), ser(c)}}, []api.Series{ser(b, at(1, 1))}},
	} {
		if got, e := Merge(x.lists...); e != api.OK || !same(got, x.want) {
			t.Errorf("Merge(%v): %v, %d, not %v", x.lists, got, e, x.want)
		}
		checkMerge(t, x.lists...)
	}
}

func TestP11_2_MergeRefuses(t *testing.T) {
	a := of("a", "1")
	good := ser(of("b", "1"), at(1, 1))
	var many []api.Label
	for i := range 17 {
		many = append(many, api.Label{Name: "l" + strconv.Itoa(10+i), Value: "v"})
	}
	for _, x := range []struct {
		s api.Series
		e api.Errno
	}{
		{ser(a, at(0, 1)), api.OK},
		{ser(a, at(0, 1), at(1<<50, 1)), api.OK},
		{ser(many[:16], at(5, 1)), api.OK},
		{ser(of("a", strings.Repeat("v", 256)), at(5, 1)), api.OK},
		{ser(a, at(-1, 1)), api.ErrArg},
		{ser(a, at(math.MinInt64, 1)), api.ErrArg},
		{ser(a, at(1<<50+1, 1)), api.ErrArg},
		{ser(a, at(1, 1), at(math.MaxInt64, 1)), api.ErrArg},
		{ser(a, at(-1, 1), at(2, 1)), api.ErrArg},
		{ser(a, at(5, 1), at(5, 1)), api.ErrArg},
		{ser(a, at(5, 1), at(4, 1)), api.ErrArg},
		{ser(a, at(1, 1), at(3, 1), at(2, 1)), api.ErrArg},
		{ser(nil, at(1, 1)), api.ErrLabel},
		{ser(nil), api.ErrLabel},
		{ser(of("a", "")), api.ErrLabel},
		{ser(of("-", "1"), at(1, 1)), api.ErrLabel},
		{ser(of("a", ""), at(1, 1)), api.ErrLabel},
		{ser(of("a", "\xff"), at(1, 1)), api.ErrLabel},
		{ser(of("a", strings.Repeat("v", 257)), at(1, 1)), api.ErrLabel},
		{ser(of("b", "1", "a", "1"), at(1, 1)), api.ErrLabel},
		{ser(of("a", "1", "a", "1"), at(1, 1)), api.ErrLabel},
		{ser(many, at(1, 1)), api.ErrLabel},
		// Of one series the labels are looked at first.
		{ser(of("a", ""), at(-1, 1)), api.ErrLabel},
	} {
		for _, lists := range [][][]api.Series{{{x.s}}, {{good, x.s}}, {{x.s, good}}, {nil, {good}, {good, x.s}}} {
			if _, e := Merge(lists...); e != x.e {
				t.Errorf("Merge(%v): %d, not %d", lists, e, x.e)
			}
			checkMerge(t, lists...)
		}
	}
	// The first series at fault tells, list by list.
	noTime, noLabels := ser(a, at(-1, 1)), ser(nil, at(1, 1))
	for _, x := range []struct {
		lists [][]api.Series
		e     api.Errno
	}{
		{[][]api.Series{{noTime, noLabels}}, api.ErrArg},
		{[][]api.Series{{noLabels, noTime}}, api.ErrLabel},
		{[][]api.Series{{good, noTime}, {noLabels}}, api.ErrArg},
		{[][]api.Series{{good}, {good, noLabels}, {noTime}}, api.ErrLabel},
	} {
		if l, e := Merge(x.lists...); l != nil || e != x.e {
			t.Errorf("Merge(%v): %v, %d, not %d", x.lists, l, e, x.e)
		}
	}
}

func TestP11_2_AsTheModel(t *testing.T) {
	r := rand.New(rand.NewSource(112))
	for range 3000 {
		var lists [][]api.Series
		for range r.Intn(5) {
			l := some(r)
			if r.Intn(4) == 0 {
				l = append(l, some(r)...)
			}
			if len(l) > 0 && r.Intn(6) == 0 {
				s := &l[r.Intn(len(l))]
				switch r.Intn(4) {
				case 0:
					s.Labels = nil
				case 1:
					s.Samples[0].T = -1
				case 2:
					s.Samples = append(s.Samples, s.Samples[0])
				case 3:
					s.Samples = nil
				}
			}
			lists = append(lists, l)
		}
		checkMerge(t, lists...)
	}
}

// Label sets of which one is the other's beginning, and values in the order of their bytes, stand in order.
func TestP11_2_Order(t *testing.T) {
	sets := [][]api.Label{of("a", "1"), of("a", "1", "b", "1"), of("a", "10"), of("a", "2"), of("a", "Z"), of("a", "a"), of("a", "é"), of("aa", "1"), of("b", "0")}
	var l []api.Series
	for i, set := range sets {
		l = append(l, ser(set, at(int64(i), 1)))
	}
	for shift := range len(l) {
		turned := append(slices.Clone(l[shift:]), l[:shift]...)
		if got, e := Merge(turned); e != api.OK || !same(got, l) {
			t.Error(shift, got, e)
		}
		s := stored(t, turned[:3], turned[3:6], turned[6:])
		checkRange(t, s, l, nil, 0, 99)
	}
}

// No list has too many series, or samples.
func TestP11_2_MergeOfMany(t *testing.T) {
	checkMerge(t, numbered(1000, "a", 5), numbered(1500, "b", 5), numbered(500, "a", 6))
	long := []api.Series{ser(of("a", "1"), every(0, 150000)...)}
	if l, e := Merge(long, long); e != api.OK || !same(l, long) {
		t.Error("many samples", e)
	}
	var lists [][]api.Series
	for i := range int64(20000) {
		lists = append(lists, []api.Series{ser(of("a", "1"), at((i*7919)%20000, float64(i)))})
	}
	if l, e := Merge(lists...); e != api.OK || len(l) != 1 || len(l[0].Samples) != 20000 {
		t.Error("many lists", e)
	}
}

func TestP11_2_Memory(t *testing.T) {
	one := []api.Series{ser(of("b", "1"), at(1, 1), at(2, 2)), ser(of("a", "1"), at(1, 1))}
	two := []api.Series{ser(of("a", "1"), at(1, 10), at(3, 3)), ser(of("c", "1"), at(1, 1))}
	was1, was2 := copied(one), copied(two)
	want := modelMerge(was1, was2)
	l, _ := Merge(one, two)
	if !same(one, was1) || !same(two, was2) {
		t.Error("a list was changed", one, two)
	}
	spoil(l)
	if !same(one, was1) || !same(two, was2) {
		t.Error("an answer shares memory with a list", one, two)
	}
	l, _ = Merge(one, two)
	spoil(one)
	spoil(two)
	if !same(l, want) {
		t.Error("a list was kept", l)
	}
	// No two lists of one answer share memory.
	for i := range l {
		next := l[i+1:]
		was := copied(next)
		_ = append(l[i].Labels, api.Label{Name: "!"})
		_ = append(l[i].Samples, at(-1, -1))
		if !same(next, was) {
			t.Error("shared within an answer", i)
		}
	}
}

func TestP11_7_Merging(t *testing.T) {
	r := rand.New(rand.NewSource(117))
	must := func(lists ...[]api.Series) []api.Series {
		l, e := Merge(lists...)
		if e != api.OK {
			t.Fatal(e)
		}
		return l
	}
	for range 500 {
		a, b, c := some(r), some(r), some(r)
		x := must(a)
		if !same(must(x), x) || !same(must(x, x), x) || !same(must(a, a), x) {
			t.Fatal("of one", a)
		}
		all := must(a, b, c)
		if !same(must(must(a, b), c), all) || !same(must(a, must(b, c)), all) {
			t.Fatal("going from one to the next", a, b, c)
		}
	}
}
