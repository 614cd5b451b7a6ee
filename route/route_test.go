package route

import (
	"fmt"
	"math"
	"slices"
	"strings"
	"testing"

	"tocsin/api"
)

func TestExamples(t *testing.T) {
	l := example()
	told(t, l, of("job", "a", "severity", "critical"), 1, 2)
	told(t, l, of("job", "a"), 2)
	told(t, l, of("job", "b"), 0)
	if k, e := Key(l, 2, of("job", "a", "severity", "critical")); k != `2/{job="a"}` || e != api.OK {
		t.Error(k, e)
	}
	l[2].By = nil
	if k, e := Key(l, 2, of("job", "a", "severity", "critical")); k != "2/{}" || e != api.OK {
		t.Error(k, e)
	}
	judged(t, "none", nil, api.ErrRoute, 0)
	judged(t, "its own parent", []api.Route{root(), child(1, "a", nil)}, api.ErrRoute, 1)
}

// told holds who is told of a label set against what is wanted, and all else against the words.
func told(t *testing.T, l []api.Route, s []api.Label, want ...int) {
	t.Helper()
	if got, e := Match(l, s); !slices.Equal(got, want) || e != api.OK {
		t.Errorf("%v: Match(%v): %v, %d; want %v", l, s, got, e, want)
	}
	agrees(t, l, s)
}

// judged holds Right and New, and the errors of all that ask Right, against what is wanted, and against the words.
func judged(t *testing.T, said string, l []api.Route, want api.Errno, number int) {
	t.Helper()
	if e, at := rightModel(l); e != want || at != number {
		t.Errorf("%s: the words say %d, %d", said, e, at)
	}
	if e, at := Right(l); e != want || at != number {
		t.Errorf("%s: Right %d, %d; want %d, %d", said, e, at, want, number)
	}
	x, e, at := New(l)
	if e != want || at != number || (x != nil) != (want == api.OK) {
		t.Errorf("%s: New %v, %d, %d; want %d, %d", said, x, e, at, want, number)
	}
	if want == api.OK {
		agrees(t, l, of("a", "1"))
		return
	}
	// It is told ahead of a number that is no route's, and of labels that are not right.
	for _, s := range [][]api.Label{nil, of("a", "1"), of("a", "")} {
		if got, e := Match(l, s); got != nil || e != want {
			t.Errorf("%s: Match %v, %d", said, got, e)
		}
		for _, i := range append(noNumbers(len(l)), 0) {
			if got, e := Key(l, i, s); got != "" || e != want {
				t.Errorf("%s: Key %v, %d", said, got, e)
			}
		}
	}
	for _, i := range append(noNumbers(len(l)), 0) {
		if got, e := Path(l, i); got != nil || e != want {
			t.Errorf("%s: Path %v, %d", said, got, e)
		}
		if got, e := Children(l, i); got != nil || e != want {
			t.Errorf("%s: Children %v, %d", said, got, e)
		}
		if got, e := Receivers(l, i); got != nil || e != want {
			t.Errorf("%s: Receivers %v, %d", said, got, e)
		}
	}
	if got, e := Receivers(l); got != nil || e != want {
		t.Errorf("%s: Receivers %v, %d", said, got, e)
	}
}

func TestP24_1_HowMany(t *testing.T) {
	count := func(n int) []api.Route {
		l := []api.Route{root()}
		for i := 1; i < n; i++ {
			l = append(l, child(i/2, "a", eq("a", "1")))
		}
		return l
	}
	judged(t, "nil", nil, api.ErrRoute, 0)
	judged(t, "empty", []api.Route{}, api.ErrRoute, 0)
	for _, n := range []int{1, 2, 63, 64} {
		judged(t, fmt.Sprint(n), count(n), api.OK, 0)
	}
	for _, n := range []int{65, 66, 1000} {
		l := count(n)
		judged(t, fmt.Sprint(n), l, api.ErrFull, 0)
		// Too many are told ahead of one that is not right.
		l[0].Parent = 0
		judged(t, fmt.Sprint(n, ", the first at fault"), l, api.ErrFull, 0)
		judged(t, fmt.Sprint(n, " of nothing"), make([]api.Route, n), api.ErrFull, 0)
	}
	l := count(64)
	l[63].Receiver = ""
	judged(t, "the last of 64", l, api.ErrRoute, 63)
}

// change is what is done to a route, and whether it is right then.
type change struct {
	said string
	do   func(r *api.Route)
	is   bool
}

// changedAt judges routes of which one is changed.
func changedAt(t *testing.T, number int, list []change) {
	t.Helper()
	for _, x := range list {
		l := deep()
		x.do(&l[number])
		if x.is {
			judged(t, x.said, l, api.OK, 0)
		} else {
			judged(t, x.said, l, api.ErrRoute, number)
		}
	}
}

func TestP24_1_First(t *testing.T) {
	list := []change{
		{"no change", func(r *api.Route) {}, true},
		{"matchers of none", func(r *api.Route) { r.Matchers = []api.Matcher{} }, true},
		{"matchers", func(r *api.Route) { r.Matchers = eq("a", "") }, false},
		{"wrong matchers", func(r *api.Route) { r.Matchers = is(0, "", "") }, false},
		{"Continue", func(r *api.Route) { r.Continue = true }, false},
		{"All", func(r *api.Route) { r.All = true }, true},
	}
	for _, n := range []int{0, 1, -2, math.MinInt, math.MaxInt} {
		list = append(list, change{fmt.Sprint("parent ", n), func(r *api.Route) { r.Parent = n }, false})
	}
	changedAt(t, 0, list)
	judged(t, "alone", []api.Route{root()}, api.OK, 0)
	judged(t, "alone, of nothing", make([]api.Route, 1), api.ErrRoute, 0)
}

func TestP24_1_Parents(t *testing.T) {
	for i := 1; i < 7; i++ {
		for _, n := range []int{-1, -2, math.MinInt, i, i + 1, 7, math.MaxInt} {
			changedAt(t, i, []change{{fmt.Sprint(i, " parent ", n), func(r *api.Route) { r.Parent = n }, false}})
		}
		for n := range i {
			changedAt(t, i, []change{{fmt.Sprint(i, " parent ", n), func(r *api.Route) { r.Parent = n }, true}})
		}
	}
}

// anyRoute are the changes that are right, or not, of each route, be it the first one or another.
func anyRoute() []change {
	var list []change
	for _, names := range wrongBys() {
		list = append(list, change{fmt.Sprintf("by %q", names), func(r *api.Route) { r.By = names }, false})
	}
	for _, names := range [][]string{nil, {}, {"a"}, {"b", "a"}, {"a", "A", "_", "__name__"}, several(16), {strings.Repeat("n", 64)}} {
		list = append(list, change{fmt.Sprintf("by %q", names), func(r *api.Route) { r.By = names }, true})
		list = append(list, change{fmt.Sprintf("by %q and All", names), func(r *api.Route) { r.By, r.All = names, true }, len(names) == 0})
	}
	for _, x := range []struct {
		n             int64
		wait, another bool
	}{{-1, false, false}, {math.MinInt64, false, false}, {0, true, false}, {1, true, true}, {maxSpan, true, true}, {maxSpan + 1, false, false}, {math.MaxInt64, false, false}} {
		list = append(list,
			change{fmt.Sprint("Wait ", x.n), func(r *api.Route) { r.Wait = x.n }, x.wait},
			change{fmt.Sprint("Interval ", x.n), func(r *api.Route) { r.Interval = x.n }, x.another},
			change{fmt.Sprint("Repeat ", x.n), func(r *api.Route) { r.Repeat = x.n }, x.another})
	}
	for _, n := range []int{0, 1, 2, 63, 64, 65, 1000} {
		list = append(list, change{fmt.Sprint("a receiver of ", n), func(r *api.Route) { r.Receiver = strings.Repeat("r", n) }, n >= 1 && n <= 64})
	}
	for _, name := range []string{"\xff", " ", "a b", "é\n", "\x00"} {
		list = append(list, change{fmt.Sprintf("the receiver %q", name), func(r *api.Route) { r.Receiver = name }, true})
	}
	list = append(list, change{"32 signs of two bytes", func(r *api.Route) { r.Receiver = strings.Repeat("é", 32) }, true})
	return append(list, change{"33 signs of two bytes", func(r *api.Route) { r.Receiver = strings.Repeat("é", 33) }, false})
}

func TestP24_1_Each(t *testing.T) {
	for _, number := range []int{0, 1, 3, 6} {
		changedAt(t, number, anyRoute())
	}
}

func TestP24_1_Matchers(t *testing.T) {
	var list []change
	for _, m := range wrongMatchers() {
		list = append(list, change{fmt.Sprint("matchers ", m), func(r *api.Route) { r.Matchers = m }, false})
	}
	for _, m := range [][]api.Matcher{nil, {}, eq("a", "1"), eq("a", ""), slices.Repeat(eq("a", "1"), 16), is(api.MNre, "a", "x|y"), eq(strings.Repeat("n", 64), strings.Repeat("v", 256))} {
		list = append(list, change{fmt.Sprint("matchers ", m), func(r *api.Route) { r.Matchers = m }, true})
	}
	for _, number := range []int{1, 3, 6} {
		changedAt(t, number, list)
	}
}

// TestP24_1_Two: of two at fault it is the first one.
func TestP24_1_Two(t *testing.T) {
	var wrong []change
	for _, x := range anyRoute() {
		if !x.is {
			wrong = append(wrong, x)
		}
	}
	wrong = append(wrong, change{"parent", func(r *api.Route) { r.Parent = 64 }, false}, change{"matchers", func(r *api.Route) { r.Matchers = is(9, "", "") }, false})
	for i, x := range wrong {
		y := wrong[(i*7+3)%len(wrong)]
		l := deep()
		x.do(&l[2])
		y.do(&l[5])
		judged(t, x.said+", "+y.said, l, api.ErrRoute, 2)
		l = deep()
		x.do(&l[6])
		y.do(&l[0])
		judged(t, y.said+", "+x.said, l, api.ErrRoute, 0)
	}
}

func TestP24_2_MatchLabels(t *testing.T) {
	x := tree(t, example())
	for _, s := range wrongSets() {
		if got, e := Match(example(), s); got != nil || e != api.ErrLabel {
			t.Errorf("%q: %v, %d", s, got, e)
		}
		if got, e := x.Match(s); got != nil || e != api.ErrLabel {
			t.Errorf("%q: %v, %d", s, got, e)
		}
		agrees(t, example(), s)
	}
	told(t, example(), nil, 0)
	told(t, example(), []api.Label{}, 0)
	told(t, example(), many(16), 0)
}

func TestP24_2_Match(t *testing.T) {
	one := []api.Route{root()}
	told(t, one, nil, 0)
	told(t, one, of("a", "1"), 0)
	two := []api.Route{root(), child(0, "a", eq("a", "1"))}
	told(t, two, of("a", "1"), 1)
	told(t, two, of("a", "2"), 0)
	told(t, two, nil, 0)
	// A route without matchers answers always.
	all := []api.Route{root(), child(0, "a", nil), child(0, "b", eq("a", "1"))}
	told(t, all, of("a", "1"), 1)
	all[1].Continue = true
	told(t, all, of("a", "1"), 1, 2)
	told(t, all, nil, 1)
	// One with several matchers answers if all of them match.
	both := []api.Route{root(), child(0, "a", slices.Concat(eq("a", "1"), is(api.MRe, "b", "1|2"), is(api.MNe, "c", "1"), is(api.MNre, "d", "")))}
	told(t, both, of("a", "1", "b", "2", "d", "1"), 1)
	told(t, both, of("a", "1", "b", "2", "c", "1", "d", "1"), 0)
	told(t, both, of("a", "1", "b", "3", "d", "1"), 0)
	told(t, both, of("a", "1", "b", "2"), 0)
}

func TestP24_2_MatchDeep(t *testing.T) {
	// 0 (1 (3 (6), 4), 2 (5)); each answers its letter, 3 has Continue.
	for _, x := range []struct {
		letters string
		want    []int
	}{
		{"", []int{0}}, {"x", []int{0}}, {"b", []int{1}}, {"c", []int{2}}, {"bc", []int{1}},
		{"d", []int{0}}, {"e", []int{0}}, {"f", []int{0}}, {"g", []int{0}}, {"dg", []int{0}}, {"cdeg", []int{2}},
		{"bd", []int{3}}, {"be", []int{4}}, {"bg", []int{1}}, {"bdg", []int{6}}, {"bde", []int{3, 4}}, {"bdeg", []int{6, 4}},
		{"cf", []int{5}}, {"bf", []int{1}}, {"bcf", []int{1}}, {"bcdefg", []int{6, 4}}, {"bdf", []int{3}},
	} {
		var s []api.Label
		for _, r := range x.letters {
			s = append(s, api.Label{Name: string(r), Value: "1"})
		}
		told(t, deep(), s, x.want...)
	}
}

func TestP24_2_MatchContinue(t *testing.T) {
	s := of("a", "1")
	l := []api.Route{root(), goesOn(child(0, "1", eq("a", "1"))), goesOn(child(0, "2", eq("a", "2"))), child(0, "3", eq("a", "1")), child(0, "4", nil)}
	told(t, l, s, 1, 3)
	told(t, l, of("a", "2"), 2, 4)
	told(t, l, nil, 4)
	l[3].Continue = true
	told(t, l, s, 1, 3, 4)
	l[4].Continue = true
	told(t, l, s, 1, 3, 4)
	l[1].Continue = false
	told(t, l, s, 1)
	// Without Continue, one that does not answer ends no asking.
	l[1].Matchers = eq("a", "3")
	told(t, l, s, 3, 4)
	// That a child goes on says nothing of its parent.
	l = []api.Route{root(), child(0, "1", nil), child(0, "2", nil), goesOn(child(1, "3", nil))}
	told(t, l, s, 3)
	l[1].Continue = true
	told(t, l, s, 3, 2)
	l[3].Continue = false
	told(t, l, s, 3, 2)
	// One with Continue, none of whose children answers, is told itself, and the next one asked.
	l[3].Matchers = eq("a", "2")
	told(t, l, s, 1, 2)
	l = append(l, goesOn(child(1, "4", eq("a", "1"))), child(1, "5", eq("a", "1")), child(1, "6", eq("a", "1")))
	told(t, l, s, 4, 5, 2)
	told(t, l, of("a", "2"), 3, 2)
	told(t, l, of("a", "3"), 1, 2)
}

func TestP24_2_Key(t *testing.T) {
	all := root()
	all.All = true
	s := of("__name__", "up", "a", "1", "b", "x\"y", "c", "3")
	for _, x := range []struct {
		r    api.Route
		s    []api.Label
		want string
	}{
		{root(), s, "0/{}"}, {root(), nil, "0/{}"}, {by(root()), s, "0/{}"},
		{by(root(), "a"), s, `0/{a="1"}`}, {by(root(), "b"), s, `0/{b="x\"y"}`}, {by(root(), "b", "a"), s, `0/{a="1",b="x\"y"}`},
		{by(root(), "c", "a", "d"), s, `0/{a="1",c="3"}`}, {by(root(), "d"), s, "0/{}"}, {by(root(), "a"), nil, "0/{}"},
		{by(root(), "__name__"), s, "0/up"}, {by(root(), "__name__", "a"), s, `0/up{a="1"}`}, {by(root(), "__name__"), of("__name__", "a b"), `0/{__name__="a b"}`},
		{by(root(), several(16)...), many(2), `0/{l000="v",l001="v"}`},
		{all, s, `0/up{a="1",b="x\"y",c="3"}`}, {all, nil, "0/{}"}, {all, []api.Label{}, "0/{}"}, {all, of("a", "1"), `0/{a="1"}`},
	} {
		l := []api.Route{x.r}
		if k, e := Key(l, 0, x.s); k != x.want || e != api.OK {
			t.Errorf("%v: Key(%v): %q, %d; want %q", x.r, x.s, k, e, x.want)
		}
		agrees(t, l, x.s)
	}
}

func TestP24_2_KeyNumbers(t *testing.T) {
	l := []api.Route{root()}
	for i := 1; i < 64; i++ {
		l = append(l, by(child(0, "a", eq("a", "2")), "a"))
	}
	x := tree(t, l)
	for i := 1; i < 64; i++ {
		// A route's key is told whether it answers or not.
		want := fmt.Sprintf(`%d/{a="1"}`, i)
		if k, e := Key(l, i, of("a", "1", "b", "2")); k != want || e != api.OK {
			t.Error(i, k, e)
		}
		if k, e := x.Key(i, of("a", "1", "b", "2")); k != want || e != api.OK {
			t.Error(i, k, e)
		}
	}
	for _, s := range append(wrongSets(), nil, of("a", "1")) {
		for _, i := range noNumbers(64) {
			if k, e := Key(l, i, s); k != "" || e != api.ErrNone {
				t.Error(i, k, e)
			}
			if k, e := x.Key(i, s); k != "" || e != api.ErrNone {
				t.Error(i, k, e)
			}
		}
	}
	for _, s := range wrongSets() {
		for _, i := range []int{0, 1, 63} {
			if k, e := Key(l, i, s); k != "" || e != api.ErrLabel {
				t.Error(i, k, e)
			}
			if k, e := x.Key(i, s); k != "" || e != api.ErrLabel {
				t.Error(i, k, e)
			}
		}
	}
}

func TestP24_2_PathAndChildren(t *testing.T) {
	l := deep()
	for i, x := range []struct{ path, children []int }{
		{[]int{0}, []int{1, 2}}, {[]int{0, 1}, []int{3, 4}}, {[]int{0, 2}, []int{5}}, {[]int{0, 1, 3}, []int{6}}, {[]int{0, 1, 4}, nil}, {[]int{0, 2, 5}, nil}, {[]int{0, 1, 3, 6}, nil},
	} {
		if got, e := Path(l, i); !slices.Equal(got, x.path) || e != api.OK {
			t.Error("Path", i, got, e)
		}
		if got, e := Children(l, i); !slices.Equal(got, x.children) || e != api.OK {
			t.Error("Children", i, got, e)
		}
	}
	for _, l := range [][]api.Route{l, {root()}} {
		for _, i := range noNumbers(len(l)) {
			if got, e := Path(l, i); got != nil || e != api.ErrNone {
				t.Error("Path", i, got, e)
			}
			if got, e := Children(l, i); got != nil || e != api.ErrNone {
				t.Error("Children", i, got, e)
			}
		}
	}
	// As deep as it goes.
	chain := []api.Route{root()}
	for i := range 63 {
		chain = append(chain, child(i, "a", eq("a", "1")))
	}
	if got, e := Path(chain, 63); len(got) != 64 || got[0] != 0 || got[63] != 63 || e != api.OK {
		t.Error("Path", got, e)
	}
	told(t, chain, of("a", "1"), 63)
	told(t, chain, nil, 0)
}

func TestP24_2_Receivers(t *testing.T) {
	l := deep()
	l[4].Receiver, l[6].Receiver = "team", "b"
	for _, x := range []struct {
		numbers []int
		want    []string
	}{
		{nil, nil}, {[]int{}, nil}, {[]int{0}, []string{"team"}}, {[]int{0, 0}, []string{"team"}}, {[]int{2, 2, 2}, []string{"c"}},
		{[]int{0, 4}, []string{"team"}}, {[]int{6, 1, 0}, []string{"b", "team"}}, {[]int{5, 3, 1}, []string{"f", "d", "b"}},
		{[]int{4, 6, 0, 1, 2, 4}, []string{"team", "b", "c"}}, {[]int{0, 1, 2, 3, 4, 5, 6}, []string{"team", "b", "c", "d", "f"}},
		{slices.Repeat([]int{3, 2}, 500), []string{"d", "c"}},
	} {
		was := slices.Clone(x.numbers)
		got, e := Receivers(l, x.numbers...)
		if !slices.Equal(got, x.want) || e != api.OK {
			t.Error(x.numbers, got, e)
		}
		if !slices.Equal(was, x.numbers) {
			t.Error("changed", was, x.numbers)
		}
	}
	for _, i := range noNumbers(7) {
		for _, numbers := range [][]int{{i}, {0, i}, {i, 0}, {1, 2, i, 3}, {i, i}} {
			if got, e := Receivers(l, numbers...); got != nil || e != api.ErrNone {
				t.Error(numbers, got, e)
			}
		}
	}
}

func TestP24_3_NilTree(t *testing.T) {
	var x *Tree
	for _, s := range append(wrongSets(), nil, of("a", "1")) {
		if got, e := x.Match(s); got != nil || e != api.ErrNil {
			t.Error("Match", got, e)
		}
		for _, i := range append(noNumbers(1), 0) {
			if k, e := x.Key(i, s); k != "" || e != api.ErrNil {
				t.Error("Key", k, e)
			}
		}
	}
	for _, i := range append(noNumbers(1), 0) {
		if r, e := x.Route(i); !sameRoute(r, api.Route{}) || e != api.ErrNil {
			t.Error("Route", r, e)
		}
	}
	if x.Len() != 0 {
		t.Error("Len", x.Len())
	}
}

// TestP1_ZeroTree: a tree that nobody made has no routes, and does not panic.
func TestP1_ZeroTree(t *testing.T) {
	x := &Tree{}
	if got, e := x.Match(nil); got != nil || e == api.OK {
		t.Error("Match", got, e)
	}
	if k, e := x.Key(0, nil); k != "" || e != api.ErrNone {
		t.Error("Key", k, e)
	}
	if r, e := x.Route(0); !sameRoute(r, api.Route{}) || e != api.ErrNone {
		t.Error("Route", r, e)
	}
	if x.Len() != 0 {
		t.Error("Len", x.Len())
	}
}

func TestP24_3_Tree(t *testing.T) {
	l := deep()
	l[2] = api.Route{Parent: 0, Receiver: "web", Matchers: slices.Concat(eq("a", "1"), is(api.MRe, "b", ".+")), By: []string{"b", "a"}, Wait: 5, Interval: maxSpan, Repeat: 7, Continue: true}
	l[3].All = true
	x := tree(t, l)
	if x.Len() != 7 {
		t.Error("Len", x.Len())
	}
	for i, want := range l {
		if r, e := x.Route(i); !sameRoute(r, want) || e != api.OK {
			t.Error("Route", i, r, e)
		}
	}
	for _, i := range noNumbers(7) {
		if r, e := x.Route(i); !sameRoute(r, api.Route{}) || e != api.ErrNone {
			t.Error("Route", i, r, e)
		}
	}
}

// TestP24_4_Told: somebody is told; who is told answers, and so does each on its path; none of its children does.
func TestP24_4_Told(t *testing.T) {
	s := newSource(244)
	for range 3000 {
		l, set := s.routes(10), s.set()
		got, e := Match(l, set)
		if len(got) == 0 || e != api.OK {
			t.Fatal(l, set, got, e)
		}
		for _, i := range got {
			path, _ := Path(l, i)
			for _, r := range path {
				if !answersModel(l[r], set) {
					t.Fatal(l, set, got, i, r)
				}
			}
			children, _ := Children(l, i)
			for _, c := range children {
				if answersModel(l[c], set) {
					t.Fatal(l, set, got, i, c)
				}
			}
		}
		agrees(t, l, set)
	}
}

// TestP24_5_Once: each is told at most once, and none with one on its path.
func TestP24_5_Once(t *testing.T) {
	s := newSource(245)
	several := 0
	for range 4000 {
		l, set := s.routes(12), s.set()
		got, _ := Match(l, set)
		if len(got) > 1 {
			several++
		}
		for k, i := range got {
			path, _ := Path(l, i)
			for m, j := range got {
				if k != m && slices.Contains(path, j) {
					t.Fatal(l, set, got)
				}
			}
		}
		// Where two paths part, the one with the lower number is told first.
		for k := 1; k < len(got); k++ {
			a, _ := Path(l, got[k-1])
			b, _ := Path(l, got[k])
			if slices.Compare(a, b) >= 0 {
				t.Fatal(l, set, got)
			}
		}
	}
	if several < 300 {
		t.Error("too few with several:", several)
	}
}

// TestP24_6_One: without any Continue just one is told.
func TestP24_6_One(t *testing.T) {
	s := newSource(246)
	for range 3000 {
		l, set := s.routes(12), s.set()
		for i := range l {
			l[i].Continue = false
		}
		if got, e := Match(l, set); len(got) != 1 || e != api.OK {
			t.Fatal(l, set, got, e)
		}
	}
}

// TestP24_7_Keys: two label sets have one key just if they have the same values of the names in By.
func TestP24_7_Keys(t *testing.T) {
	s := newSource(247)
	var same, others int
	for range 5000 {
		l, a, b := s.routes(4), s.set(), s.set()
		i := s.Intn(len(l))
		want := l[i].All && slices.Equal(a, b)
		if !l[i].All {
			value := func(set []api.Label, name string) string {
				at := slices.IndexFunc(set, func(one api.Label) bool { return one.Name == name })
				if at < 0 {
					return ""
				}
				return set[at].Value
			}
			want = !slices.ContainsFunc(l[i].By, func(name string) bool { return value(a, name) != value(b, name) })
		}
		x, _ := Key(l, i, a)
		y, _ := Key(l, i, b)
		if (x == y) != want {
			t.Fatal(l[i], a, b, x, y)
		}
		if want {
			same++
		} else {
			others++
		}
		// No two routes have a key in common.
		if j := s.Intn(len(l)); j != i {
			if z, _ := Key(l, j, a); z == x {
				t.Fatal(l, i, j, x, z)
			}
		}
	}
	if same < 500 || others < 500 {
		t.Error("too few:", same, others)
	}
	// Signs of the text within a value make no other set's key.
	l := []api.Route{by(root(), "a", "b")}
	x, _ := Key(l, 0, of("a", `1",b="2`))
	y, _ := Key(l, 0, of("a", "1", "b", "2"))
	if x == y {
		t.Error(x, y)
	}
}

// TestP24_8_Behind: a route behind all others that nobody asks, or that does not answer, changes nothing.
func TestP24_8_Behind(t *testing.T) {
	s := newSource(248)
	for range 3000 {
		l, set := s.routes(10), s.set()
		want, _ := Match(l, set)
		next := child(s.Intn(len(l)), "more", eq("d", "1"))
		next.Continue = s.Intn(2) == 0
		if got, e := Match(append(copyRoutes(l), next), set); !slices.Equal(got, want) || e != api.OK {
			t.Fatal(l, next, set, got, want)
		}
		// Behind one that ends the asking of a parent's children it may answer.
		parent := s.Intn(len(l))
		children, _ := Children(l, parent)
		ends := func(c int) bool { return answersModel(l[c], set) && !l[c].Continue }
		if slices.ContainsFunc(children, ends) || !slices.ContainsFunc(want, func(i int) bool { p, _ := Path(l, i); return slices.Contains(p, parent) }) {
			if got, e := Match(append(copyRoutes(l), child(parent, "more", nil)), set); !slices.Equal(got, want) || e != api.OK {
				t.Fatal(l, parent, set, got, want)
			}
		}
	}
}

// TestP24_2_Model holds all calls against the words, of routes as they come.
func TestP24_2_Model(t *testing.T) {
	s := newSource(242)
	for range 500 {
		l := s.routes(16)
		judged(t, "random", l, api.OK, 0)
		for range 3 {
			agrees(t, l, s.set())
		}
	}
}

// spoil writes into all lists of routes.
func spoil(l []api.Route) {
	for i := range l {
		for k := range l[i].Matchers {
			l[i].Matchers[k] = api.Matcher{}
		}
		for k := range l[i].By {
			l[i].By[k] = "spoilt"
		}
		l[i] = api.Route{}
	}
}

// TestRules_Memory: nothing that is handed in is changed or kept, and what is answered is new.
func TestRules_Memory(t *testing.T) {
	list := func() []api.Route {
		l := append(deep(), example()[2])
		l[1].By = append(make([]string, 0, 8), "a", "b")
		l[7].Parent = 1
		return l
	}
	l, s := list(), of("a", "1", "b", "1", "d", "1", "g", "1")
	x := tree(t, l)
	agrees(t, l, s)
	Receivers(l, 0, 1, 2)
	if !sameRoutes(l, list()) || !slices.Equal(s, of("a", "1", "b", "1", "d", "1", "g", "1")) {
		t.Error("changed", l, s)
	}
	spoil(l)
	for range 2 {
		got, e := x.Match(s)
		if !slices.Equal(got, []int{6}) || e != api.OK {
			t.Error(got, e)
		}
		got[0] = 99
		_ = append(got, 98)
		if k, e := x.Key(1, s); k != `1/{a="1",b="1"}` || e != api.OK {
			t.Error(k, e)
		}
		var all []api.Route
		for i := range x.Len() {
			r, _ := x.Route(i)
			_ = append(r.By, "more")
			all = append(all, r)
		}
		if !sameRoutes(all, list()) {
			t.Error(all)
		}
		spoil(all)
	}
	// What was asked of labels that are written over is forgotten.
	s[1].Value = "2"
	if got, _ := x.Match(s); !slices.Equal(got, []int{0}) {
		t.Error(got)
	}
}

// TestRules_Lists: the lists that Path, Children, Receivers and Match answer may be written into.
func TestRules_Lists(t *testing.T) {
	l := deep()
	was := copyRoutes(l)
	for range 2 {
		path, _ := Path(l, 6)
		children, _ := Children(l, 0)
		matched, _ := Match(l, of("b", "1", "d", "1", "e", "1"))
		receivers, _ := Receivers(l, 1, 2)
		if !slices.Equal(path, []int{0, 1, 3, 6}) || !slices.Equal(children, []int{1, 2}) || !slices.Equal(matched, []int{3, 4}) || !slices.Equal(receivers, []string{"b", "c"}) {
			t.Error(path, children, matched, receivers)
		}
		for _, list := range [][]int{path, children, matched} {
			for i := range list {
				list[i] = 99
			}
			_ = append(list, 98)
		}
		receivers[0] = "spoilt"
		if !sameRoutes(l, was) {
			t.Error("changed", l)
		}
	}
}

// TestRules_Refused: a call that is refused changes nothing.
func TestRules_Refused(t *testing.T) {
	l := example()
	x := tree(t, l)
	for _, wrong := range wrongSets() {
		x.Match(wrong)
		x.Key(2, wrong)
		x.Key(3, wrong)
		x.Route(-1)
		New([]api.Route{{}})
		Match(l, wrong)
		if got, e := x.Match(of("job", "a", "severity", "critical")); !slices.Equal(got, []int{1, 2}) || e != api.OK {
			t.Error(got, e)
		}
		if k, e := x.Key(2, of("job", "a")); k != `2/{job="a"}` || e != api.OK {
			t.Error(k, e)
		}
	}
	if !sameRoutes(l, example()) {
		t.Error("changed", l)
	}
}

// TestRules_Apart: two trees know nothing of each other.
func TestRules_Apart(t *testing.T) {
	a, b := tree(t, example()), tree(t, []api.Route{root()})
	for range 2 {
		if got, _ := a.Match(of("job", "a")); !slices.Equal(got, []int{2}) || a.Len() != 3 {
			t.Error(got)
		}
		if got, _ := b.Match(of("job", "a")); !slices.Equal(got, []int{0}) || b.Len() != 1 {
			t.Error(got)
		}
	}
}

// FuzzRoute holds all calls against the words, of routes that a seed gives, one of them with other things.
func FuzzRoute(f *testing.F) {
	f.Add(int64(1), 0, 3, "a", "1|2", "b", "team", int64(5))
	f.Add(int64(2), 1, 1, "a", "(", "a", "", int64(0))
	f.Add(int64(3), -1, 4, "", "\xff", "1", "r", int64(1)<<41)
	f.Fuzz(func(t *testing.T, seed int64, parent, op int, name, value, by, receiver string, span int64) {
		s := newSource(seed)
		l := s.routes(8)
		r := &l[s.Intn(len(l))]
		switch s.Intn(6) {
		case 0:
			r.Parent = parent
		case 1:
			r.Matchers = append(r.Matchers, api.Matcher{Op: op, Name: name, Value: value})
		case 2:
			r.By = append(r.By, by)
		case 3:
			r.Receiver = receiver
		case 4:
			r.Wait, r.Interval = span, max(span, 1)
		case 5:
			r.Repeat = span
		}
		want, number := rightModel(l)
		judged(t, "fuzz", l, want, number)
		if want == api.OK {
			agrees(t, l, s.set())
			agrees(t, l, of(name, value))
		}
	})
}
