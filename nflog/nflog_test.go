package nflog

import (
	"fmt"
	"math"
	"slices"
	"strings"
	"testing"

	"tocsin/api"
)

func TestExamples(t *testing.T) {
	a, b, both := sets("a"), sets("b"), sets("a", "b")
	told := mark(100, a, nil)
	over := mark(120, nil, a)
	for i, c := range []struct {
		m                api.Mark
		has              bool
		now              int64
		firing, resolved [][]api.Label
		want             bool
	}{
		{api.Mark{}, false, 100, a, nil, true},
		{api.Mark{}, false, 100, nil, nil, false},
		{told, true, 120, a, nil, false},
		{told, true, 150, a, nil, true},
		{told, true, 120, both, nil, true},
		{told, true, 120, b, nil, true},
		{told, true, 120, nil, a, true},
		{over, true, 130, nil, nil, false},
		{over, true, 1000, nil, a, false},
	} {
		if got, e := Needs(c.m, c.has, c.now, 50, c.firing, c.resolved); got != c.want || e != api.OK {
			t.Error(i, got, e)
		}
	}
}

// judged holds Right, and what asks it, against what is wanted, and against the words.
func judged(t *testing.T, said string, m api.Mark, want api.Errno) {
	t.Helper()
	before := copyMark(m)
	if e := rightModel(m); e != want {
		t.Errorf("%s: the words say %d, not %d", said, e, want)
	}
	if e := Right(m); e != want {
		t.Errorf("%s: Right %d; want %d", said, e, want)
	}
	b, e := Record(m)
	if e != want || (b != nil) != (want == api.OK) {
		t.Errorf("%s: Record %d; want %d", said, e, want)
	}
	l := New()
	if e := l.Put(m); e != want || (l.Len() == 1) != (want == api.OK) {
		t.Errorf("%s: Put %d, Len %d; want %d", said, e, l.Len(), want)
	}
	if _, e := Needs(m, true, 5, 5, nil, nil); e != want {
		t.Errorf("%s: Needs %d; want %d", said, e, want)
	}
	got, e := Read(recordModel(m))
	if want == api.OK && (e != api.OK || !sameMark(got, m)) || want != api.OK && (e != api.ErrForm || !isZero(got)) {
		t.Errorf("%s: Read %v, %d", said, got, e)
	}
	if !sameMark(m, before) {
		t.Errorf("%s: changed", said)
	}
}

func TestP26_1_RightTexts(t *testing.T) {
	for _, c := range []struct {
		text         string
		receiver, is bool // as a Receiver, as a Key
	}{
		{"", false, false}, {"a", true, true}, {" ", true, true}, {"\x00", true, true}, {"é", true, true}, {"0/{a=\"1\"}", true, true},
		{strings.Repeat("r", 64), true, true}, {strings.Repeat("r", 65), false, true}, {strings.Repeat("é", 32), true, true}, {strings.Repeat("é", 33), false, true},
		{strings.Repeat("r", 65535), false, true}, {strings.Repeat("r", 65536), false, true}, {strings.Repeat("r", 65537), false, false}, {strings.Repeat("é", 32768), false, true}, {strings.Repeat("é", 32769), false, false},
		{"\xff", false, false}, {"a\xc3", false, false}, {"\xed\xa0\x80", false, false}, {"\xc0\x80", false, false}, {strings.Repeat("r", 63) + "\xff", false, false}, {strings.Repeat("r", 65535) + "\xff", false, false},
	} {
		said := fmt.Sprintf("%.70q of %d", c.text, len(c.text))
		m, want := at("team", "k", 1), api.OK
		m.Receiver = c.text
		if !c.receiver {
			want = api.ErrReceiver
		}
		judged(t, "the receiver "+said, m, want)
		m, want = at("team", "k", 1), api.OK
		m.Key = c.text
		if !c.is {
			want = api.ErrName
		}
		judged(t, "the key "+said, m, want)
	}
}

func TestP26_1_RightAt(t *testing.T) {
	for _, n := range []int64{0, 1, 63, 64, maxTime - 1, maxTime} {
		judged(t, fmt.Sprint("At ", n), at("team", "k", n), api.OK)
	}
	for _, n := range []int64{-1, math.MinInt64, maxTime + 1, math.MaxInt64} {
		judged(t, fmt.Sprint("At ", n), at("team", "k", n), api.ErrArg)
	}
}

func TestP26_1_RightLists(t *testing.T) {
	for i, l := range rightLists() {
		judged(t, fmt.Sprint("Firing ", i), mark(1, l, nil), api.OK)
		judged(t, fmt.Sprint("Resolved ", i), mark(1, nil, l), api.OK)
		judged(t, fmt.Sprint("both ", i), mark(1, l, l), api.OK) // none is twice in one of them
	}
	for i, l := range wrongLists() {
		judged(t, fmt.Sprint("Firing ", i), mark(1, l, nil), api.ErrLabel)
		judged(t, fmt.Sprint("Resolved ", i), mark(1, nil, l), api.ErrLabel)
		judged(t, fmt.Sprint("Firing ", i), mark(1, l, sets("1")), api.ErrLabel)
		judged(t, fmt.Sprint("Resolved ", i), mark(1, sets("1"), l), api.ErrLabel)
	}
	for _, n := range []int{499, 500} {
		judged(t, fmt.Sprint(n, " fire"), mark(1, several(n), nil), api.OK)
		judged(t, fmt.Sprint(n, " are resolved"), mark(1, nil, several(n)), api.OK)
		judged(t, fmt.Sprint(n, " of each"), mark(1, several(n), several(n)), api.OK)
	}
	for _, n := range []int{501, 502, 2000} {
		judged(t, fmt.Sprint(n, " fire"), mark(1, several(n), nil), api.ErrFull)
		judged(t, fmt.Sprint(n, " are resolved"), mark(1, nil, several(n)), api.ErrFull)
	}
}

// TestP26_1_RightTwo: of two faults it is the first one.
func TestP26_1_RightTwo(t *testing.T) {
	faults := []struct {
		e  api.Errno
		do func(m *api.Mark)
	}{
		{api.ErrReceiver, func(m *api.Mark) { m.Receiver = "" }},
		{api.ErrReceiver, func(m *api.Mark) { m.Receiver = "\xff" }},
		{api.ErrName, func(m *api.Mark) { m.Key = "" }},
		{api.ErrName, func(m *api.Mark) { m.Key = "\xff" }},
		{api.ErrArg, func(m *api.Mark) { m.At = -1 }},
		{api.ErrArg, func(m *api.Mark) { m.At = maxTime + 1 }},
		{api.ErrFull, func(m *api.Mark) { m.Firing = several(501) }},
		{api.ErrFull, func(m *api.Mark) { m.Resolved = several(501) }},
		{api.ErrLabel, func(m *api.Mark) { m.Firing = sets("2", "1") }},
		{api.ErrLabel, func(m *api.Mark) { m.Resolved = sets("") }},
	}
	for i, first := range faults {
		for k, second := range faults[i:] {
			m := at("team", "k", 1)
			second.do(&m)
			first.do(&m)
			judged(t, fmt.Sprint(i, " and ", i+k), m, first.e)
		}
	}
	judged(t, "too many that are wrong", mark(1, slices.Repeat(sets(""), 501), nil), api.ErrFull)
	judged(t, "wrong ones, and too many", mark(1, sets(""), several(501)), api.ErrFull)
	judged(t, "nothing", api.Mark{}, api.ErrReceiver)
}

func TestP26_1_Sorted(t *testing.T) {
	for i, c := range []struct{ l, want [][]api.Label }{
		{nil, nil},
		{[][]api.Label{nil}, [][]api.Label{nil}},
		{[][]api.Label{nil, {}, nil}, [][]api.Label{nil}},
		{sets("1"), sets("1")},
		{sets("1", "1"), sets("1")},
		{sets("2", "1", "10", "2", "1"), sets("1", "10", "2")},
		{[][]api.Label{of("b", "1"), of("a", "1", "b", "1"), nil, of("a", "1"), of("B", "1"), of("a", "10"), of("a", "1")}, [][]api.Label{nil, of("B", "1"), of("a", "1"), of("a", "1", "b", "1"), of("a", "10"), of("b", "1")}},
		{slices.Concat(several(600), several(600)), several(600)},
	} {
		before := copySetsModel(c.l)
		if got, e := Sorted(c.l...); e != api.OK || !sameSets(got, c.want) {
			t.Error(i, got, e)
		}
		if !sameSets(c.l, before) {
			t.Error("changed", i, c.l)
		}
	}
	if got, e := Sorted(); len(got) != 0 || e != api.OK {
		t.Error(got, e)
	}
	for _, set := range wrongSets() {
		for _, l := range [][][]api.Label{{set}, {set, of("a", "1")}, {of("a", "1"), set}, {set, set}} {
			if got, e := Sorted(l...); got != nil || e != api.ErrLabel {
				t.Error(l, got, e)
			}
		}
	}
	r := newSource(261)
	for range 500 {
		l := r.some()
		got, e := Sorted(l...)
		if e != api.OK || !withinModel(l, got) || !withinModel(got, l) {
			t.Fatal(l, got, e)
		}
		if rightModel(mark(1, got, nil)) != api.OK {
			t.Fatal(l, got)
		}
	}
}

func TestP26_1_Within(t *testing.T) {
	odd := [][]api.Label{of("b", "1", "a", "1"), of("a", ""), of("\xff", "\xfe"), of("a", "1", "a", "1"), many(100)}
	for i, c := range []struct {
		a, b [][]api.Label
		want bool
	}{
		{nil, nil, true},
		{nil, sets("1"), true},
		{[][]api.Label{}, nil, true},
		{sets("1"), nil, false},
		{sets("1"), [][]api.Label{}, false},
		{[][]api.Label{nil}, nil, false},
		{[][]api.Label{nil}, [][]api.Label{{}}, true},
		{[][]api.Label{nil}, sets("1"), false},
		{sets("1"), sets("1"), true},
		{sets("1"), sets("3", "2", "1"), true},
		{sets("1", "3", "1"), sets("3", "2", "1"), true},
		{sets("3", "2", "1"), sets("1", "3"), false},
		{sets("1", "2"), sets("2", "1"), true},
		{sets("1", "1"), sets("1"), true},
		{sets("1"), sets("1", "1"), true},
		{sets("1"), sets("10"), false},
		{[][]api.Label{of("a", "1")}, [][]api.Label{of("a", "1", "b", "1")}, false},
		{[][]api.Label{of("a", "1", "b", "1")}, [][]api.Label{of("a", "1")}, false},
		{[][]api.Label{of("a", "1", "b", "1")}, [][]api.Label{of("b", "1", "a", "1")}, false},
		{odd, odd, true},
		{odd[:2], odd[2:], false},
		{odd[4:], odd, true},
		{several(2000), several(2000), true},
		{several(2000), several(1999), false},
	} {
		x, y := copySetsModel(c.a), copySetsModel(c.b)
		if got := Within(c.a, c.b); got != c.want || withinModel(c.a, c.b) != c.want {
			t.Error(i, got)
		}
		if !sameSets(c.a, x) || !sameSets(c.b, y) {
			t.Error("changed", i, c.a, c.b)
		}
	}
	r := newSource(262)
	for range 2000 {
		a, b := r.some(), r.some()
		if got := Within(a, b); got != withinModel(a, b) {
			t.Fatal(a, b, got)
		}
	}
}

// asked holds Needs against what is wanted, and against the words.
func asked(t *testing.T, m api.Mark, has bool, now, repeat int64, firing, resolved [][]api.Label, want bool, wantE api.Errno) {
	t.Helper()
	said, saidE := needsModel(m, has, now, repeat, firing, resolved)
	got, e := Needs(m, has, now, repeat, firing, resolved)
	if got != want || e != wantE || said != want || saidE != wantE {
		t.Errorf("Needs(%v, %v, %d, %d, %v, %v) = %v, %d; want %v, %d; the words say %v, %d", m, has, now, repeat, firing, resolved, got, e, want, wantE, said, saidE)
	}
}

// TestP26_2_Steps: each of the five steps of the words.
func TestP26_2_Steps(t *testing.T) {
	some := mark(100, sets("1", "2"), sets("3", "4"))
	none := mark(100, nil, sets("3"))
	for _, c := range []struct {
		m                api.Mark
		has              bool
		now              int64
		firing, resolved [][]api.Label
		want             bool
	}{
		// 1
		{some, false, 120, sets("1"), nil, true},
		{some, false, 120, nil, nil, false},
		{some, false, 120, nil, sets("1"), false},
		{some, false, 120, sets("9"), sets("1"), true},
		{api.Mark{}, false, 0, sets("1"), nil, true},
		// 2
		{some, true, 120, sets("9"), nil, true},
		{some, true, 120, sets("1", "9"), nil, true},
		{some, true, 120, sets("3"), nil, true}, // it was told as resolved
		{some, true, 50, sets("9"), nil, true},
		{none, true, 120, sets("1"), nil, true},
		// 3
		{some, true, 120, nil, nil, true},
		{some, true, 120, nil, sets("3"), true},
		{some, true, 50, nil, nil, true},
		{none, true, 120, nil, nil, false},
		{none, true, 120, nil, sets("3"), false},
		{none, true, 120, nil, sets("9"), false},
		{none, true, maxTime, nil, sets("9"), false},
		// 4
		{some, true, 120, sets("1"), sets("9"), true},
		{some, true, 120, sets("1"), sets("3", "9"), true},
		{some, true, 120, sets("1"), sets("2"), true}, // it was told as firing
		{some, true, 120, sets("2", "1"), sets("4", "3"), false},
		{some, true, 120, sets("1"), nil, false},
		{some, true, 120, sets("1"), sets("4"), false},
		// 5
		{some, true, 149, sets("1"), sets("3"), false},
		{some, true, 150, sets("1"), sets("3"), true},
		{some, true, 151, sets("1"), sets("3"), true},
		{some, true, 100, sets("1"), nil, false},
		{some, true, 0, sets("1"), nil, false}, // now - repeat is below 0
		{some, true, maxTime, sets("1"), nil, true},
		{mark(0, sets("1"), nil), true, 49, sets("1"), nil, false},
		{mark(0, sets("1"), nil), true, 50, sets("1"), nil, true},
		{mark(maxTime, sets("1"), nil), true, maxTime, sets("1"), nil, false},
		// Lists in any order, and with one twice.
		{some, true, 120, sets("2", "1", "2"), sets("4", "3", "4", "4"), false},
		{some, true, 120, sets("2", "9", "1"), nil, true},
		{some, true, 120, sets("1"), sets("4", "9", "3"), true},
	} {
		asked(t, c.m, c.has, c.now, 50, c.firing, c.resolved, c.want, api.OK)
	}
	// The label set of no labels is one.
	asked(t, some, true, 120, 50, [][]api.Label{nil}, nil, true, api.OK)
	asked(t, mark(100, [][]api.Label{nil}, nil), true, 120, 50, [][]api.Label{{}}, nil, false, api.OK)
	asked(t, api.Mark{}, false, 120, 50, [][]api.Label{nil}, nil, true, api.OK)
}

func TestP26_2_Repeat(t *testing.T) {
	m := mark(100, sets("1"), nil)
	for _, repeat := range []int64{1, 2, 50, maxSpan - 1, maxSpan} {
		for _, now := range []int64{0, 99, 100, 101, 102, 149, 150, 151, 99 + repeat, 100 + repeat, 101 + repeat, maxTime} {
			asked(t, m, true, now, repeat, sets("1"), nil, now >= 100+repeat, api.OK)
		}
	}
}

func TestP26_2_Refused(t *testing.T) {
	fine := mark(100, sets("1"), nil)
	wrong := []api.Mark{{}, at("", "k", 1), at("team", "", 1), at("team", "k", -1), mark(1, several(501), nil), mark(1, sets("2", "1"), nil)}
	errors := []api.Errno{api.ErrReceiver, api.ErrReceiver, api.ErrName, api.ErrArg, api.ErrFull, api.ErrLabel}
	for _, x := range [][2]int64{{-1, 50}, {math.MinInt64, 50}, {maxTime + 1, 50}, {math.MaxInt64, 50}, {120, 0}, {120, -1}, {120, math.MinInt64}, {120, maxSpan + 1}, {120, math.MaxInt64}, {-1, 0}, {math.MinInt64, math.MaxInt64}} {
		for _, has := range []bool{false, true} {
			asked(t, fine, has, x[0], x[1], sets("9"), nil, false, api.ErrArg)
			asked(t, fine, has, x[0], x[1], sets(""), sets(""), false, api.ErrArg)
			for _, m := range wrong {
				asked(t, m, has, x[0], x[1], sets(""), nil, false, api.ErrArg)
			}
		}
	}
	for _, set := range wrongSets() {
		for _, l := range [][][]api.Label{{set}, {of("a", "9"), set}, {set, of("a", "9")}} {
			for _, has := range []bool{false, true} {
				asked(t, fine, has, 120, 50, l, nil, false, api.ErrLabel)
				asked(t, fine, has, 120, 50, nil, l, false, api.ErrLabel)
				asked(t, fine, has, 120, 50, sets("9"), l, false, api.ErrLabel)
				asked(t, fine, has, 120, 50, l, l, false, api.ErrLabel)
				for _, m := range wrong {
					asked(t, m, has, 120, 50, l, nil, false, api.ErrLabel)
				}
			}
		}
	}
	for i, m := range wrong {
		asked(t, m, true, 120, 50, sets("1"), nil, false, errors[i])
		asked(t, m, true, 120, 50, nil, nil, false, errors[i])
		asked(t, m, false, 120, 50, sets("1"), nil, true, api.OK)
		asked(t, m, false, 120, 50, nil, nil, false, api.OK)
	}
	// More than MaxAlerts may fire, and be resolved.
	asked(t, mark(100, several(500), several(500)), true, 120, 50, several(500), several(501), true, api.OK)
	asked(t, mark(100, several(500), several(500)), true, 120, 50, slices.Repeat(several(500), 3), several(500), false, api.OK)
	asked(t, api.Mark{}, false, 120, 50, several(2000), several(2000), true, api.OK)
}

func TestP26_2_Model(t *testing.T) {
	r := newSource(2621)
	for range 5000 {
		m := r.mark(100)
		now, repeat := int64(90+r.Intn(60)), int64(r.Intn(40))
		firing, resolved := r.some(), r.some()
		if r.Intn(40) == 0 {
			resolved = append(resolved, wrongSets()[r.Intn(11)])
		}
		has := r.Intn(5) > 0
		want, wantE := needsModel(m, has, now, repeat, firing, resolved)
		asked(t, m, has, now, repeat, firing, resolved, want, wantE)
		if t.Failed() {
			return
		}
	}
}

// spoilSets writes into all of a list, and behind it.
func spoilSets(l [][]api.Label) {
	for i := range l {
		for k := range l[i] {
			l[i][k] = api.Label{Name: "spoilt", Value: "x"}
		}
		_ = append(l[i], of("more", "x")...)
		l[i] = of("spoilt", "list")
	}
	_ = append(l, of("more", "x"))
}

// TestRules_SortedMemory: what Sorted answers is new, and no two of its sets share anything.
func TestRules_SortedMemory(t *testing.T) {
	one := make([]api.Label, 1, 5)
	one[0] = api.Label{Name: "a", Value: "1"}
	l := [][]api.Label{one, of("a", "2"), one}
	got, _ := Sorted(l...)
	spoilSets(l)
	if !sameSets(got, sets("1", "2")) {
		t.Error(got)
	}
	l = sets("1", "2")
	got, _ = Sorted(l...)
	spoilSets(got[:1:1])
	if !sameSets(l, sets("1", "2")) || !sameSets(got[1:], sets("2")) {
		t.Error(l, got)
	}
}
