package route

import (
	"fmt"
	"math"
	"math/rand"
	"reflect"
	"regexp"
	"slices"
	"strings"
	"testing"

	"tocsin/api"
	"tocsin/labels"
	"tocsin/match"
)

const maxSpan = int64(1) << 40

// of answers the labels of names and values, as they stand.
func of(words ...string) []api.Label {
	var l []api.Label
	for i := 0; i < len(words); i += 2 {
		l = append(l, api.Label{Name: words[i], Value: words[i+1]})
	}
	return l
}

// many answers n labels, rising.
func many(n int) []api.Label {
	var l []api.Label
	for i := range n {
		l = append(l, api.Label{Name: fmt.Sprintf("l%03d", i), Value: "v"})
	}
	return l
}

// several answers n names of labels, rising.
func several(n int) []string {
	var l []string
	for i := range n {
		l = append(l, fmt.Sprintf("l%03d", i))
	}
	return l
}

// is answers a matcher alone.
func is(op int, name, value string) []api.Matcher {
	return []api.Matcher{{Op: op, Name: name, Value: value}}
}

func eq(name, value string) []api.Matcher { return is(api.MEq, name, value) }

// root answers a first route.
func root() api.Route { return api.Route{Parent: -1, Receiver: "team", Interval: 1, Repeat: 1} }

// child answers a route of a parent.
func child(parent int, receiver string, l []api.Matcher) api.Route {
	return api.Route{Parent: parent, Receiver: receiver, Matchers: l, Interval: 1, Repeat: 1}
}

// goesOn answers a route with Continue.
func goesOn(r api.Route) api.Route {
	r.Continue = true
	return r
}

// by answers a route with other names in By.
func by(r api.Route, names ...string) api.Route {
	r.By = names
	return r
}

// example answers the routes of the chapter's first example.
func example() []api.Route {
	return []api.Route{root(), goesOn(child(0, "pager", eq("severity", "critical"))), by(child(0, "web", eq("job", "a")), "job")}
}

// deep answers routes with children of children: 0 (1 (3 (6), 4), 2 (5)).
func deep() []api.Route {
	return []api.Route{
		root(), child(0, "b", eq("b", "1")), child(0, "c", eq("c", "1")),
		goesOn(child(1, "d", eq("d", "1"))), child(1, "e", eq("e", "1")), child(2, "f", eq("f", "1")), child(3, "g", eq("g", "1")),
	}
}

// wrongSets are lists that are no right label set.
func wrongSets() [][]api.Label {
	return [][]api.Label{many(17), of("1", "a"), of("", "a"), of("a:b", "1"), of(strings.Repeat("n", 65), "1"), of("a", ""), of("a", strings.Repeat("v", 257)), of("a", "\xff"), of("b", "1", "a", "1"), of("a", "1", "a", "1"), of("a", "1", "b", "")}
}

// wrongMatchers are lists of matchers that no route may have: too many, and one of each error.
func wrongMatchers() [][]api.Matcher {
	out := [][]api.Matcher{slices.Repeat(eq("a", "1"), 17), slices.Repeat(eq("a", "1"), 1000)}
	for _, wrong := range [][]api.Matcher{
		is(0, "a", "1"), is(5, "a", "1"), is(-1, "a", "1"),
		eq("", "1"), eq("1a", "1"), eq("a:b", "1"), eq(strings.Repeat("n", 65), "1"),
		eq("a", "\xff"), is(api.MRe, "a", "\xc0\x80"),
		is(api.MNe, "a", strings.Repeat("v", 257)), is(api.MRe, "a", strings.Repeat("v", 257)),
		is(api.MRe, "a", "("), is(api.MNre, "a", "**"), is(api.MRe, "a", "["),
		is(api.MRe, "a", strings.Repeat("(", 51)+"x"+strings.Repeat(")", 51)),
		is(api.MRe, "a", "((a{1000}){1000})"),
	} {
		out = append(out, wrong, slices.Concat(eq("a", "1"), wrong), slices.Concat(wrong, eq("a", "1")))
	}
	return out
}

// wrongBys are lists of names that no route may have.
func wrongBys() [][]string {
	return [][]string{several(17), several(100), {"a", "a"}, {"a", "b", "a"}, append(several(15), "l000"), {""}, {"a", ""}, {"1"}, {"a:b"}, {"a", "é"}, {"\xff"}, {"a b"}, {"*"}, {strings.Repeat("n", 65)}}
}

// noNumbers are numbers of no route among n.
func noNumbers(n int) []int { return []int{-1, -2, math.MinInt, n, n + 1, math.MaxInt} }

// rightModel: the words of the chapter.
func rightModel(l []api.Route) (api.Errno, int) {
	if len(l) == 0 {
		return api.ErrRoute, 0
	}
	if len(l) > 64 {
		return api.ErrFull, 0
	}
	name := regexp.MustCompile(`\A[a-zA-Z_][a-zA-Z0-9_]{0,63}\z`)
	for i, r := range l {
		right := r.Parent >= 0 && r.Parent < i
		if i == 0 {
			right = r.Parent == -1 && len(r.Matchers) == 0 && !r.Continue
		}
		e, _ := match.Right(r.Matchers)
		right = right && e == api.OK && len(r.By) <= 16 && !(r.All && len(r.By) > 0)
		met := map[string]bool{}
		for _, n := range r.By {
			right = right && name.MatchString(n) && !met[n]
			met[n] = true
		}
		right = right && r.Wait >= 0 && r.Wait <= maxSpan && r.Interval >= 1 && r.Interval <= maxSpan && r.Repeat >= 1 && r.Repeat <= maxSpan
		if !right || len(r.Receiver) < 1 || len(r.Receiver) > 64 {
			return api.ErrRoute, i
		}
	}
	return api.OK, 0
}

func answersModel(r api.Route, s []api.Label) bool {
	for _, m := range r.Matchers {
		if !match.New(m).Labels(s) {
			return false
		}
	}
	return true
}

func childrenModel(l []api.Route, i int) []int {
	var out []int
	for c := range l {
		if l[c].Parent == i {
			out = append(out, c)
		}
	}
	return out
}

func pathModel(l []api.Route, i int) []int {
	if i < 0 {
		return nil
	}
	return append(pathModel(l, l[i].Parent), i)
}

// toldModel: who is told, asked at route i.
func toldModel(l []api.Route, i int, s []api.Label) []int {
	if !answersModel(l[i], s) {
		return nil
	}
	var told []int
	stopped := false
	for _, c := range childrenModel(l, i) {
		if stopped {
			continue
		}
		said := toldModel(l, c, s)
		told = append(told, said...)
		stopped = len(said) > 0 && !l[c].Continue
	}
	if told == nil {
		told = append(told, i)
	}
	return told
}

// matchModel is for routes that are right.
func matchModel(l []api.Route, s []api.Label) ([]int, api.Errno) {
	if e, _ := labels.Right(s); e != api.OK {
		return nil, api.ErrLabel
	}
	return toldModel(l, 0, s), api.OK
}

// keyModel is for routes that are right.
func keyModel(l []api.Route, i int, s []api.Label) (string, api.Errno) {
	if i < 0 || i >= len(l) {
		return "", api.ErrNone
	}
	if e, _ := labels.Right(s); e != api.OK {
		return "", api.ErrLabel
	}
	var set []api.Label
	for _, one := range s {
		if l[i].All || slices.Contains(l[i].By, one.Name) {
			set = append(set, one)
		}
	}
	text, _ := labels.Print(set)
	return fmt.Sprintf("%d/%s", i, text), api.OK
}

// tree answers the tree of routes that are right.
func tree(t *testing.T, l []api.Route) *Tree {
	t.Helper()
	x, e, at := New(l)
	if x == nil || e != api.OK || at != 0 {
		t.Fatal("New", l, e, at)
	}
	return x
}

// agrees holds all that is told of right routes and a label set, by their list and by their tree, against the words.
func agrees(t *testing.T, l []api.Route, s []api.Label) bool {
	t.Helper()
	x := tree(t, l)
	same := x.Len() == len(l)
	told, want := matchModel(l, s)
	got, e := Match(l, s)
	same = same && slices.Equal(got, told) && e == want
	got, e = x.Match(s)
	same = same && slices.Equal(got, told) && e == want
	numbers := noNumbers(len(l))
	for i := range l {
		numbers = append(numbers, i)
	}
	for _, i := range numbers {
		key, want := keyModel(l, i, s)
		text, e := Key(l, i, s)
		same = same && text == key && e == want
		text, e = x.Key(i, s)
		same = same && text == key && e == want
	}
	for i, r := range l {
		one, e := x.Route(i)
		same = same && sameRoute(one, r) && e == api.OK
		path, e := Path(l, i)
		same = same && slices.Equal(path, pathModel(l, i)) && e == api.OK
		children, e := Children(l, i)
		same = same && slices.Equal(children, childrenModel(l, i)) && e == api.OK
	}
	if !same {
		t.Errorf("%v: not as the words say of %v: Match %v, %d; want %v, %d", l, s, got, e, told, want)
	}
	return same
}

// plain answers a route whose empty lists are nil.
func plain(r api.Route) api.Route {
	if len(r.Matchers) == 0 {
		r.Matchers = nil
	}
	if len(r.By) == 0 {
		r.By = nil
	}
	return r
}

func sameRoute(a, b api.Route) bool { return reflect.DeepEqual(plain(a), plain(b)) }

// copyRoutes answers routes that share nothing with l.
func copyRoutes(l []api.Route) []api.Route {
	out := slices.Clone(l)
	for i := range out {
		out[i].Matchers, out[i].By = slices.Clone(out[i].Matchers), slices.Clone(out[i].By)
	}
	return out
}

func sameRoutes(a, b []api.Route) bool { return slices.EqualFunc(a, b, sameRoute) }

// source answers random things.
type source struct{ *rand.Rand }

func newSource(seed int64) source { return source{rand.New(rand.NewSource(seed))} }

// set answers one of few label sets, of the labels a, b and c, and, seldom, __name__.
func (s source) set() []api.Label {
	var l []api.Label
	if s.Intn(6) == 0 {
		l = of("__name__", "up")
	}
	for _, name := range []string{"a", "b", "c"} {
		if n := s.Intn(4); n > 0 {
			l = append(l, api.Label{Name: name, Value: fmt.Sprint(n)})
		}
	}
	return l
}

// matchers answers at most two matchers.
func (s source) matchers() []api.Matcher {
	var l []api.Matcher
	for range s.Intn(3) {
		m := api.Matcher{Op: 1 + s.Intn(4), Name: string(rune('a' + s.Intn(3))), Value: fmt.Sprint(1 + s.Intn(3))}
		if m.Op >= api.MRe {
			m.Value = []string{".+", ".*", "1|2", "[23]", "", "3"}[s.Intn(6)]
		}
		l = append(l, m)
	}
	return l
}

// routes answers one to so many routes.
func (s source) routes(most int) []api.Route {
	var l []api.Route
	for i := range 1 + s.Intn(most) {
		r := api.Route{Parent: -1, Receiver: fmt.Sprint("r", s.Intn(4)), Wait: int64(s.Intn(3)), Interval: int64(1 + s.Intn(3)), Repeat: int64(1 + s.Intn(3))}
		if i > 0 {
			r.Parent, r.Matchers, r.Continue = s.Intn(i), s.matchers(), s.Intn(2) == 0
		}
		r.All = s.Intn(5) == 0
		for _, at := range s.Perm(4)[:s.Intn(4)] {
			if !r.All {
				r.By = append(r.By, []string{"a", "b", "c", "__name__"}[at])
			}
		}
		l = append(l, r)
	}
	return l
}
