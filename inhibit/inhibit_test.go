package inhibit

import (
	"fmt"
	"slices"
	"strings"
	"testing"

	"tocsin/api"
	"tocsin/labels"
)

func TestExamples(t *testing.T) {
	set := func(cluster, severity string) []api.Label { return of("cluster", cluster, "severity", severity) }
	l := []api.Inhibit{critical()}
	tells(t, l, set("a", "warning"), [][]api.Label{set("a", "critical")}, 0, 0)
	tells(t, l, set("b", "warning"), [][]api.Label{set("a", "critical")}, -1, -1)
	tells(t, l, set("b", "warning"), [][]api.Label{set("a", "critical"), set("b", "critical")}, 0, 1)
	l[0].Target = is(api.MRe, "severity", ".+")
	tells(t, l, set("a", "critical"), [][]api.Label{set("a", "critical"), of("cluster", "a", "n", "1", "severity", "critical")}, -1, -1)
	tells(t, l, set("a", "warning"), [][]api.Label{set("a", "critical")}, 0, 0)
}

// judged holds Right and New against what is wanted, and against the words.
func judged(t *testing.T, said string, l []api.Inhibit, want api.Errno, number int) {
	t.Helper()
	if e, at := rightModel(l); e != want || at != number {
		t.Errorf("%s: the words say %d, %d", said, e, at)
	}
	if e, at := Right(l); e != want || at != number {
		t.Errorf("%s: Right %d, %d; want %d, %d", said, e, at, want, number)
	}
	r, e, at := New(l)
	if e != want || at != number || (r != nil) != (want == api.OK) {
		t.Errorf("%s: New %v, %d, %d; want %d, %d", said, r, e, at, want, number)
	}
}

func TestP23_1_HowMany(t *testing.T) {
	for _, n := range []int{0, 1, 2, 31, 32} {
		judged(t, fmt.Sprint(n), slices.Repeat([]api.Inhibit{critical()}, n), api.OK, 0)
	}
	for _, n := range []int{33, 34, 1000} {
		l := slices.Repeat([]api.Inhibit{critical()}, n)
		judged(t, fmt.Sprint(n), l, api.ErrFull, 0)
		// Too many are told ahead of one that is not right.
		l[0].Source = nil
		judged(t, fmt.Sprint(n, ", the first at fault"), l, api.ErrFull, 0)
		judged(t, fmt.Sprint(n, " of nothing"), make([]api.Inhibit, n), api.ErrFull, 0)
	}
	judged(t, "nil", nil, api.OK, 0)
	judged(t, "empty", []api.Inhibit{}, api.OK, 0)
	l := slices.Repeat([]api.Inhibit{critical()}, 32)
	l[31].Equal = []string{""}
	judged(t, "the last of 32", l, api.ErrInhibit, 31)
}

// TestP23_1_Wrong: one that is not right is told by its number, wherever it stands.
func TestP23_1_Wrong(t *testing.T) {
	var wrong []api.Inhibit
	for _, m := range wrongMatchers() {
		wrong = append(wrong, inhibition(m, eq("a", "1")), inhibition(eq("a", "1"), m), inhibition(m, m), inhibition(m, eq("a", "1"), "a", "b"))
	}
	for _, names := range wrongEquals() {
		wrong = append(wrong, inhibition(eq("a", "1"), eq("a", "2"), names...))
	}
	wrong = append(wrong, api.Inhibit{}, inhibition(nil, nil, "a", "a"))
	for i, x := range wrong {
		judged(t, fmt.Sprint(i, ": ", x), []api.Inhibit{x}, api.ErrInhibit, 0)
		judged(t, fmt.Sprint(i, " behind another: ", x), []api.Inhibit{critical(), x}, api.ErrInhibit, 1)
		judged(t, fmt.Sprint(i, " between others: ", x), []api.Inhibit{critical(), critical(), x, critical()}, api.ErrInhibit, 2)
		// Of two at fault it is the first one.
		judged(t, fmt.Sprint(i, " ahead of another: ", x), []api.Inhibit{critical(), x, wrong[(i*7+3)%len(wrong)]}, api.ErrInhibit, 1)
	}
}

func TestP23_1_Right(t *testing.T) {
	for _, m := range rightMatchers() {
		judged(t, fmt.Sprint(m), []api.Inhibit{inhibition(m, eq("a", "1")), inhibition(eq("a", "1"), m), inhibition(m, m)}, api.OK, 0)
	}
	for _, names := range rightEquals() {
		judged(t, fmt.Sprint(names), []api.Inhibit{critical(), inhibition(eq("a", "1"), eq("a", "2"), names...)}, api.OK, 0)
	}
}

func TestP23_2_NilRules(t *testing.T) {
	var r *Rules
	for _, l := range append(wrongSets(), nil, of("a", "1")) {
		if i, k, e := r.By(l, l); i != 0 || k != 0 || e != api.ErrNil {
			t.Error("By", i, k, e)
		}
		if i, k, e := r.By(l); i != 0 || k != 0 || e != api.ErrNil {
			t.Error("By", i, k, e)
		}
		if got, e := r.Muted([][]api.Label{l}); got != nil || e != api.ErrNil {
			t.Error("Muted", got, e)
		}
	}
	if got, e := r.Muted(nil); got != nil || e != api.ErrNil {
		t.Error("Muted", got, e)
	}
}

// TestP1_ZeroRules: rules that nobody made are those of no inhibitions.
func TestP1_ZeroRules(t *testing.T) {
	for _, r := range []*Rules{{}, rules(t)} {
		agrees(t, r, nil, of("a", "1"), nil)
		agrees(t, r, nil, of("a", "1"), [][]api.Label{of("a", "1"), of("a", "2"), nil})
		agrees(t, r, nil, of("a", ""), [][]api.Label{of("a", "1")})
	}
}

func TestP23_2_WrongLabels(t *testing.T) {
	right := of("severity", "warning")
	for _, l := range [][]api.Inhibit{nil, {critical()}, {inhibition(is(api.MRe, "a", ".*"), is(api.MNe, "a", "x"))}} {
		r := rules(t, l...)
		for _, wrong := range wrongSets() {
			for _, x := range []struct {
				target  []api.Label
				sources [][]api.Label
			}{
				{wrong, nil}, {wrong, [][]api.Label{right}}, {right, [][]api.Label{wrong}}, {wrong, [][]api.Label{wrong}},
				{right, [][]api.Label{right, right, wrong}}, {right, [][]api.Label{of("severity", "critical"), wrong}},
			} {
				if i, k, e := r.By(x.target, x.sources...); i != 0 || k != 0 || e != api.ErrLabel {
					t.Errorf("By(%q, %q): %d, %d, %d", x.target, x.sources, i, k, e)
				}
				agrees(t, r, l, x.target, x.sources)
			}
		}
	}
}

func TestP23_2_First(t *testing.T) {
	two := []api.Inhibit{inhibition(eq("s", "1"), eq("t", "1")), inhibition(eq("s", "2"), eq("t", "1"))}
	target := of("t", "1")
	s1, s2, no := of("s", "1"), of("s", "2"), of("s", "3")
	for _, x := range []struct {
		sources  [][]api.Label
		by, from int
	}{
		{nil, -1, -1}, {[][]api.Label{}, -1, -1}, {[][]api.Label{no}, -1, -1}, {[][]api.Label{nil}, -1, -1},
		{[][]api.Label{s1}, 0, 0}, {[][]api.Label{s2}, 1, 0}, {[][]api.Label{no, no, s2}, 1, 2},
		{[][]api.Label{s1, s1}, 0, 0}, {[][]api.Label{no, s1, s1}, 0, 1}, {[][]api.Label{no, s2, s2}, 1, 1},
		// The first inhibition goes ahead of the first source.
		{[][]api.Label{s2, s1}, 0, 1}, {[][]api.Label{s2, no, s2, s1, s1}, 0, 3}, {[][]api.Label{s1, s2}, 0, 0},
	} {
		tells(t, two, target, x.sources, x.by, x.from)
	}
	tells(t, two, no, [][]api.Label{s1, s2}, -1, -1)
	tells(t, nil, target, [][]api.Label{s1}, -1, -1)
	tells(t, slices.Repeat(two[:1], 32), target, [][]api.Label{s1}, 0, 0)
	last := append(slices.Repeat(two[:1], 31), two[1])
	tells(t, last, target, [][]api.Label{no, s2}, 31, 1)
}

func TestP23_2_Equal(t *testing.T) {
	one := []api.Inhibit{inhibition(eq("s", "1"), eq("t", "1"), "c")}
	two := []api.Inhibit{inhibition(eq("s", "1"), eq("t", "1"), "d", "c")}
	for _, x := range []struct {
		l              []api.Inhibit
		source, target []api.Label
		is             bool
	}{
		{one, of("c", "a", "s", "1"), of("c", "a", "t", "1"), true},
		{one, of("c", "a", "s", "1"), of("c", "b", "t", "1"), false},
		{one, of("c", "a", "s", "1"), of("t", "1"), false},
		{one, of("s", "1"), of("c", "a", "t", "1"), false},
		{one, of("s", "1"), of("t", "1"), true},
		{one, of("c", "a", "d", "1", "s", "1"), of("c", "a", "d", "2", "t", "1"), true},
		{two, of("c", "a", "d", "1", "s", "1"), of("c", "a", "d", "1", "t", "1"), true},
		{two, of("c", "a", "d", "1", "s", "1"), of("c", "a", "d", "2", "t", "1"), false},
		{two, of("c", "a", "d", "1", "s", "1"), of("c", "b", "d", "1", "t", "1"), false},
		{two, of("c", "a", "s", "1"), of("c", "a", "t", "1"), true},
		{two, of("c", "a", "s", "1"), of("d", "a", "t", "1"), false},
		{two, of("c", "a", "s", "1"), of("c", "a", "d", "1", "t", "1"), false},
		{two, of("s", "1"), of("t", "1"), true},
	} {
		want := -1
		if x.is {
			want = 0
		}
		tells(t, x.l, x.target, [][]api.Label{x.source}, want, want)
	}
	// All sixteen names are held against one another.
	all := []api.Inhibit{inhibition(is(api.MNe, "x", "1"), eq("x", "1"), several(16)...)}
	for i := range 16 {
		without := slices.Delete(many(16), i, i+1)
		target := append(slices.Clone(without), of("x", "1")...)
		tells(t, all, target, [][]api.Label{many(16), without}, 0, 1)
	}
}

// TestP23_2_Sides: one that is on both sides is held back, unless its source is on both as well.
func TestP23_2_Sides(t *testing.T) {
	l := []api.Inhibit{inhibition(eq("s", "1"), eq("t", "1"))}
	s, both := of("s", "1"), of("s", "1", "t", "1")
	target, none := of("t", "1"), of("u", "1")
	for _, x := range []struct {
		source, target []api.Label
		is             bool
	}{
		{s, target, true}, {s, both, true}, {both, target, true}, {both, both, false},
		{both, of("n", "2", "s", "1", "t", "1"), false},
		{s, s, false}, {s, none, false}, {target, target, false}, {target, both, false}, {target, s, false}, {both, s, false}, {both, none, false},
		{none, target, false}, {none, both, false}, {none, none, false}, {nil, target, false}, {s, nil, false}, {nil, nil, false},
	} {
		want := -1
		if x.is {
			want = 0
		}
		tells(t, l, x.target, [][]api.Label{x.source}, want, want)
	}
	// A source on both sides is passed over, and the next one asked.
	tells(t, l, both, [][]api.Label{both, none, s}, 0, 2)
	// And so is an inhibition of which both are on both sides.
	tells(t, append(l, inhibition(eq("s", "1"), eq("n", "2"))), of("n", "2", "s", "1", "t", "1"), [][]api.Label{both}, 1, 0)
}

func TestP23_2_EmptySet(t *testing.T) {
	l := []api.Inhibit{inhibition(eq("s", "1"), eq("s", ""))}
	tells(t, l, nil, [][]api.Label{of("s", "1")}, 0, 0)
	tells(t, l, []api.Label{}, [][]api.Label{{}, of("s", "1")}, 0, 1)
	tells(t, l, nil, [][]api.Label{nil, {}}, -1, -1)
	l[0].Equal = []string{"c"}
	tells(t, l, nil, [][]api.Label{of("c", "1", "s", "1"), of("s", "1")}, 0, 1)
	l = []api.Inhibit{inhibition(eq("s", ""), eq("s", "1"))}
	tells(t, l, of("s", "1"), [][]api.Label{nil}, 0, 0)
	// Where all match all, nothing is held back.
	l = []api.Inhibit{inhibition(is(api.MRe, "s", ".*"), is(api.MNe, "s", "x"))}
	tells(t, l, nil, [][]api.Label{nil, of("s", "1"), of("t", "1")}, -1, -1)
}

func TestP23_2_Muted(t *testing.T) {
	set := func(c, s string) []api.Label { return of("cluster", c, "severity", s) }
	r := rules(t, critical())
	for _, l := range [][][]api.Label{nil, {}} {
		if got, e := r.Muted(l); len(got) != 0 || e != api.OK {
			t.Error(got, e)
		}
	}
	for _, x := range []struct {
		l    [][]api.Label
		want []bool
	}{
		{[][]api.Label{set("a", "warning")}, []bool{false}},
		{[][]api.Label{set("a", "warning"), set("a", "critical")}, []bool{true, false}},
		{[][]api.Label{set("a", "critical"), set("a", "warning"), set("b", "warning"), nil, set("a", "warning")}, []bool{false, true, false, false, true}},
	} {
		if got, e := r.Muted(x.l); !slices.Equal(got, x.want) || e != api.OK {
			t.Error(x.l, got, e)
		}
	}
	for _, wrong := range wrongSets() {
		for _, l := range [][][]api.Label{{wrong}, {set("a", "warning"), wrong}, {wrong, nil}, {nil, wrong, nil}} {
			if got, e := r.Muted(l); got != nil || e != api.ErrLabel {
				t.Errorf("%q: %v, %d", l, got, e)
			}
		}
	}
}

// TestP23_2_OneAnother: that one is held back does not keep it from holding others back.
func TestP23_2_OneAnother(t *testing.T) {
	l := []api.Inhibit{inhibition(eq("n", "1"), eq("n", "2")), inhibition(eq("n", "2"), eq("n", "3")), inhibition(eq("n", "3"), eq("n", "1"))}
	r := rules(t, l...)
	for _, x := range []struct {
		values string
		want   []bool
	}{
		{"123", []bool{true, true, true}}, {"321", []bool{true, true, true}}, {"12", []bool{false, true}}, {"31", []bool{false, true}},
		{"1", []bool{false}}, {"112", []bool{false, false, true}}, {"4", []bool{false}}, {"1234", []bool{true, true, true, false}},
	} {
		var sets [][]api.Label
		for _, v := range x.values {
			sets = append(sets, of("n", string(v)))
		}
		if got, e := r.Muted(sets); !slices.Equal(got, x.want) || e != api.OK {
			t.Error(x, got, e)
		}
	}
}

// TestP23_3_Itself: nothing holds itself back, nor another with the same labels.
func TestP23_3_Itself(t *testing.T) {
	s := newSource(233)
	for range 3000 {
		l := s.inhibitions(5)
		r := rules(t, l...)
		set := s.set()
		if i, k, e := r.By(set, set, slices.Clone(set)); i != -1 || k != -1 || e != api.OK {
			t.Fatal(l, set, i, k, e)
		}
		if got, e := r.Muted([][]api.Label{set, slices.Clone(set), set}); slices.Contains(got, true) || len(got) != 3 || e != api.OK {
			t.Fatal(l, set, got, e)
		}
		// Among its own sources it changes nothing but their numbers.
		others := s.sets(4)
		i, k, _ := r.By(set, others...)
		j, m, _ := r.By(set, append([][]api.Label{set}, others...)...)
		if i != j || i >= 0 && m != k+1 || i < 0 && m != -1 {
			t.Fatal(l, set, others, i, k, j, m)
		}
	}
}

// TestP23_4_More: more sources, and more inhibitions, hold back no less.
func TestP23_4_More(t *testing.T) {
	s := newSource(234)
	held := 0
	for range 8000 {
		l, sources, target := s.inhibitions(4), s.sets(4), s.set()
		more := slices.Insert(slices.Clone(l), s.Intn(len(l)+1), s.inhibition())
		moreSources := slices.Insert(slices.Clone(sources), s.Intn(len(sources)+1), s.set())
		behind := append(slices.Clone(l), s.inhibition())
		i, k, _ := rules(t, l...).By(target, sources...)
		if i < 0 {
			continue
		}
		held++
		if j, m, e := rules(t, l...).By(target, moreSources...); j < 0 || j > i || m < 0 || e != api.OK {
			t.Fatal(l, target, sources, moreSources, i, k, j, m)
		}
		if j, m, e := rules(t, more...).By(target, sources...); j < 0 || j > i+1 || m < 0 || e != api.OK {
			t.Fatal(l, more, target, sources, i, k, j, m)
		}
		if j, m, _ := rules(t, behind...).By(target, sources...); j != i || m != k {
			t.Fatal(l, behind, target, sources, i, k, j, m)
		}
	}
	if held < 500 {
		t.Error("too few were held back:", held)
	}
}

// TestP23_5_IsSo: what By tells holds by the words, and nothing ahead of it does.
func TestP23_5_IsSo(t *testing.T) {
	s := newSource(235)
	var found, not int
	for range 5000 {
		l, sources, target := s.inhibitions(4), s.sets(5), s.set()
		i, k, e := rules(t, l...).By(target, sources...)
		if e != api.OK || (i < 0) != (k < 0) {
			t.Fatal(l, target, sources, i, k, e)
		}
		if i < 0 {
			not++
		} else {
			found++
			if !holds(l[i], sources[k], target) {
				t.Fatal(l[i], sources[k], target)
			}
			for _, name := range l[i].Equal {
				if labels.Get(sources[k], name) != labels.Get(target, name) {
					t.Fatal(l[i], sources[k], target)
				}
			}
		}
		agrees(t, rules(t, l...), l, target, sources)
	}
	if found < 500 || not < 500 {
		t.Error("too few:", found, not)
	}
}

// TestP23_6_MutedIsBy: of each, with all as sources.
func TestP23_6_MutedIsBy(t *testing.T) {
	s := newSource(236)
	muted := 0
	for range 2000 {
		l, sets := s.inhibitions(6), s.sets(12)
		r := rules(t, l...)
		got, e := r.Muted(sets)
		if e != api.OK || len(got) != len(sets) {
			t.Fatal(l, sets, got, e)
		}
		for n, is := range got {
			i, _, e := r.By(sets[n], sets...)
			if (i >= 0) != is || e != api.OK {
				t.Fatal(l, sets, n, is, i, e)
			}
			if is {
				muted++
			}
		}
	}
	if muted < 500 {
		t.Error("too few were muted:", muted)
	}
}

// TestP1_AtTheLimits: as many alerts as there may be, of as many inhibitions, are asked in no long time.
func TestP1_AtTheLimits(t *testing.T) {
	source := slices.Repeat(is(api.MRe, "l000", strings.Repeat("(v|w)?", 20)), 16)
	target := slices.Repeat(is(api.MNre, "l000", strings.Repeat("(v|w)?", 20)), 16)
	r := rules(t, slices.Repeat([]api.Inhibit{inhibition(source, target, several(16)...)}, 32)...)
	var sets [][]api.Label
	for i := range 500 {
		set := many(16)
		set[15].Value = fmt.Sprint(i)
		if i%2 == 1 {
			set[0].Value = strings.Repeat("x", 256)
		}
		sets = append(sets, set)
	}
	got, e := r.Muted(sets)
	if len(got) != 500 || slices.Contains(got, true) || e != api.OK {
		t.Error(got, e)
	}
	if i, k, e := r.By(sets[1], sets...); i != -1 || k != -1 || e != api.OK {
		t.Error(i, k, e)
	}
}

// spoil writes into all lists of inhibitions.
func spoil(l []api.Inhibit) {
	for i := range l {
		for k := range l[i].Source {
			l[i].Source[k] = api.Matcher{}
		}
		for k := range l[i].Target {
			l[i].Target[k] = api.Matcher{Op: api.MEq, Name: "x", Value: "y"}
		}
		for k := range l[i].Equal {
			l[i].Equal[k] = "n"
		}
		l[i] = api.Inhibit{}
	}
}

// TestRules_Memory: nothing that is handed in is changed or kept, and what is answered is new.
func TestRules_Memory(t *testing.T) {
	list := func() []api.Inhibit {
		return []api.Inhibit{critical(), inhibition(eq("severity", "critical"), is(api.MRe, "severity", "in.*"), "cluster", "job")}
	}
	sets := func() [][]api.Label {
		return [][]api.Label{of("cluster", "a", "severity", "critical"), of("cluster", "a", "severity", "warning"), of("cluster", "a", "severity", "info"), of("cluster", "b", "severity", "info")}
	}
	l, all := list(), sets()
	r := rules(t, l...)
	Right(l)
	if fmt.Sprint(l) != fmt.Sprint(list()) {
		t.Error("changed", l)
	}
	spoil(l)
	want := []bool{false, true, true, false}
	for range 2 {
		got, e := r.Muted(all)
		if !slices.Equal(got, want) || e != api.OK {
			t.Error(got, e)
		}
		for i := range got {
			got[i] = !got[i]
		}
		_ = append(got, true)
		if i, k, e := r.By(all[2], all...); i != 1 || k != 0 || e != api.OK {
			t.Error(i, k, e)
		}
		if fmt.Sprint(all) != fmt.Sprint(sets()) {
			t.Error("changed", all)
		}
	}
	// What was asked of sets that are written over is forgotten.
	for i := range all {
		all[i][0].Value = fmt.Sprint(i)
	}
	if got, e := r.Muted(all); slices.Contains(got, true) || e != api.OK {
		t.Error(got, e)
	}
}

// TestRules_Refused: a call that is refused changes nothing.
func TestRules_Refused(t *testing.T) {
	l := []api.Inhibit{critical()}
	r := rules(t, l...)
	target, sources := of("cluster", "a", "severity", "warning"), [][]api.Label{of("cluster", "a", "severity", "critical")}
	for _, wrong := range wrongSets() {
		r.By(wrong, sources...)
		r.By(target, wrong)
		r.Muted([][]api.Label{target, wrong})
		New([]api.Inhibit{{}})
		if i, k, e := r.By(target, sources...); i != 0 || k != 0 || e != api.OK {
			t.Error(i, k, e)
		}
		agrees(t, r, l, target, sources)
	}
}

// TestRules_Apart: two rules know nothing of each other.
func TestRules_Apart(t *testing.T) {
	a, b := rules(t, critical()), rules(t)
	target, source := of("severity", "warning"), of("severity", "critical")
	for range 2 {
		if i, _, _ := a.By(target, source); i != 0 {
			t.Error(i)
		}
		if i, _, _ := b.By(target, source); i != -1 {
			t.Error(i)
		}
	}
}

// FuzzInhibit holds Right, By and Muted against the words, of inhibitions and sets that a seed gives, and of some texts.
func FuzzInhibit(f *testing.F) {
	f.Add(int64(1), 3, "a", "1|2", "b")
	f.Add(int64(2), 1, "a", "(", "a")
	f.Add(int64(3), 4, "", "\xff", "1")
	f.Fuzz(func(t *testing.T, seed int64, op int, name, value, equal string) {
		s := newSource(seed)
		l := s.inhibitions(4)
		if len(l) > 0 {
			x := &l[s.Intn(len(l))]
			x.Source = append(x.Source, api.Matcher{Op: op, Name: name, Value: value})
			x.Equal = append(x.Equal, equal)
		}
		want, number := rightModel(l)
		if e, at := Right(l); e != want || at != number {
			t.Fatal(l, e, at, want, number)
		}
		if want != api.OK {
			return
		}
		sets := s.sets(5)
		agrees(t, rules(t, l...), l, s.set(), sets)
		agrees(t, rules(t, l...), l, of(name, value), append(sets, of(name, equal)))
	})
}
