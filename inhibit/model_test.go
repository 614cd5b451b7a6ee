package inhibit

import (
	"fmt"
	"math/rand"
	"regexp"
	"slices"
	"strings"
	"testing"

	"tocsin/api"
	"tocsin/labels"
	"tocsin/match"
)

// of answers the labels of names and values, as they stand.
func of(words ...string) []api.Label {
	var l []api.Label
	for i := 0; i < len(words); i += 2 {
		l = append(l, api.Label{Name: words[i], Value: words[i+1]})
	}
	return l
}

// many answers n labels, rising.
func many(n int) []api.Label {
	var l []api.Label
	for i := range n {
		l = append(l, api.Label{Name: fmt.Sprintf("l%03d", i), Value: "v"})
	}
	return l
}

// several answers n names of labels, rising.
func several(n int) []string {
	var l []string
	for i := range n {
		l = append(l, fmt.Sprintf("l%03d", i))
	}
	return l
}

// is answers a matcher alone.
func is(op int, name, value string) []api.Matcher {
	return []api.Matcher{{Op: op, Name: name, Value: value}}
}

func eq(name, value string) []api.Matcher { return is(api.MEq, name, value) }

// inhibition answers one of these sides.
func inhibition(source, target []api.Matcher, equal ...string) api.Inhibit {
	return api.Inhibit{Source: source, Target: target, Equal: equal}
}

// critical is the inhibition of the chapter's example.
func critical() api.Inhibit {
	return inhibition(eq("severity", "critical"), eq("severity", "warning"), "cluster")
}

// wrongSets are lists that are no right label set.
func wrongSets() [][]api.Label {
	return [][]api.Label{many(17), of("1", "a"), of("", "a"), of("a:b", "1"), of(strings.Repeat("n", 65), "1"), of("a", ""), of("a", strings.Repeat("v", 257)), of("a", "\xff"), of("b", "1", "a", "1"), of("a", "1", "a", "1"), of("a", "1", "b", "")}
}

// wrongMatchers are lists of matchers that no side may have: none, too many, and one of each error.
func wrongMatchers() [][]api.Matcher {
	out := [][]api.Matcher{nil, {}, slices.Repeat(eq("a", "1"), 17), slices.Repeat(eq("a", "1"), 1000)}
	for _, wrong := range [][]api.Matcher{
		is(0, "a", "1"), is(5, "a", "1"), is(-1, "a", "1"),
		eq("", "1"), eq("1a", "1"), eq("a:b", "1"), eq(strings.Repeat("n", 65), "1"),
		eq("a", "\xff"), is(api.MRe, "a", "\xc0\x80"),
		is(api.MNe, "a", strings.Repeat("v", 257)), is(api.MRe, "a", strings.Repeat("v", 257)),
		is(api.MRe, "a", "("), is(api.MNre, "a", "**"), is(api.MRe, "a", "["),
		is(api.MRe, "a", strings.Repeat("(", 51)+"x"+strings.Repeat(")", 51)),
		is(api.MRe, "a", "((a{1000}){1000})"),
	} {
		out = append(out, wrong, slices.Concat(eq("a", "1"), wrong), slices.Concat(wrong, eq("a", "1")))
	}
	return out
}

// rightMatchers are lists of matchers that a side may have.
func rightMatchers() [][]api.Matcher {
	return [][]api.Matcher{
		eq("a", "1"), eq("a", ""), is(api.MNe, "a", "1"), is(api.MRe, "a", ".*"), is(api.MNre, "a", "x|y"), is(api.MRe, "a", ""),
		slices.Repeat(eq("a", "1"), 16), eq(strings.Repeat("n", 64), strings.Repeat("v", 256)), eq("a", "\n\"\\é"), eq("__name__", "up"),
		slices.Concat(eq("a", "1"), eq("a", "2"), is(api.MNe, "b", "")),
	}
}

// wrongEquals are lists of names that no inhibition may have.
func wrongEquals() [][]string {
	return [][]string{several(17), several(100), {"a", "a"}, {"a", "b", "a"}, append(several(15), "l000"), {""}, {"a", ""}, {"1"}, {"a:b"}, {"a", "é"}, {"\xff"}, {"a b"}, {"*"}, {strings.Repeat("n", 65)}}
}

// rightEquals are lists of names that an inhibition may have.
func rightEquals() [][]string {
	return [][]string{nil, {}, {"a"}, {"b", "a"}, {"a", "A", "_", "__name__"}, several(16), {strings.Repeat("n", 64)}}
}

// rightModel: the words of the chapter.
func rightModel(l []api.Inhibit) (api.Errno, int) {
	if len(l) > 32 {
		return api.ErrFull, 0
	}
	name := regexp.MustCompile(`\A[a-zA-Z_][a-zA-Z0-9_]{0,63}\z`)
	for i, x := range l {
		source, _ := match.Right(x.Source)
		target, _ := match.Right(x.Target)
		right := source == api.OK && target == api.OK && len(x.Source) > 0 && len(x.Target) > 0 && len(x.Equal) <= 16
		met := map[string]bool{}
		for _, n := range x.Equal {
			right = right && name.MatchString(n) && !met[n]
			met[n] = true
		}
		if !right {
			return api.ErrInhibit, i
		}
	}
	return api.OK, 0
}

// holds: does the source hold the target back, by the words of the chapter?
func holds(x api.Inhibit, source, target []api.Label) bool {
	matches := func(l []api.Matcher, s []api.Label) bool {
		for _, m := range l {
			if !match.New(m).Labels(s) {
				return false
			}
		}
		return true
	}
	value := func(s []api.Label, name string) string {
		for _, one := range s {
			if one.Name == name {
				return one.Value
			}
		}
		return ""
	}
	if !matches(x.Source, source) || !matches(x.Target, target) {
		return false
	}
	for _, name := range x.Equal {
		if value(source, name) != value(target, name) {
			return false
		}
	}
	return !(matches(x.Source, target) && matches(x.Target, source))
}

func areRight(l ...[]api.Label) bool {
	return !slices.ContainsFunc(l, func(s []api.Label) bool { e, _ := labels.Right(s); return e != api.OK })
}

func byModel(l []api.Inhibit, target []api.Label, sources [][]api.Label) (int, int, api.Errno) {
	if !areRight(target) || !areRight(sources...) {
		return 0, 0, api.ErrLabel
	}
	for i, x := range l {
		for k, s := range sources {
			if holds(x, s, target) {
				return i, k, api.OK
			}
		}
	}
	return -1, -1, api.OK
}

func mutedModel(l []api.Inhibit, sets [][]api.Label) ([]bool, api.Errno) {
	if !areRight(sets...) {
		return nil, api.ErrLabel
	}
	var out []bool
	for _, target := range sets {
		i, _, _ := byModel(l, target, sets)
		out = append(out, i >= 0)
	}
	return out, api.OK
}

// rules answers the rules of inhibitions that can be.
func rules(t *testing.T, l ...api.Inhibit) *Rules {
	t.Helper()
	r, e, at := New(l)
	if r == nil || e != api.OK || at != 0 {
		t.Fatal("New", l, e, at)
	}
	return r
}

// tells holds what rules tell of a target and of sources against the words, and against what is wanted.
func tells(t *testing.T, l []api.Inhibit, target []api.Label, sources [][]api.Label, by, from int) {
	t.Helper()
	r := rules(t, l...)
	if i, k, e := r.By(target, sources...); i != by || k != from || e != api.OK {
		t.Errorf("%v: By(%v, %v): %d, %d, %d; want %d, %d", l, target, sources, i, k, e, by, from)
	}
	agrees(t, r, l, target, sources)
}

// agrees holds By, and Muted of all sets, against the words.
func agrees(t *testing.T, r *Rules, l []api.Inhibit, target []api.Label, sources [][]api.Label) bool {
	t.Helper()
	by, from, want := byModel(l, target, sources)
	if i, k, e := r.By(target, sources...); i != by || k != from || e != want {
		t.Errorf("%v: By(%v, %v): %d, %d, %d; want %d, %d, %d", l, target, sources, i, k, e, by, from, want)
		return false
	}
	all := append(slices.Clone(sources), target)
	muted, want := mutedModel(l, all)
	if got, e := r.Muted(all); !slices.Equal(got, muted) || e != want || e != api.OK && got != nil {
		t.Errorf("%v: Muted(%v): %v, %d; want %v, %d", l, all, got, e, muted, want)
		return false
	}
	return true
}

// source answers random things.
type source struct{ *rand.Rand }

func newSource(seed int64) source { return source{rand.New(rand.NewSource(seed))} }

// set answers one of few label sets, of the labels a, b and c.
func (s source) set() []api.Label {
	var l []api.Label
	for _, name := range []string{"a", "b", "c"} {
		if n := s.Intn(4); n > 0 {
			l = append(l, api.Label{Name: name, Value: fmt.Sprint(n)})
		}
	}
	return l
}

func (s source) sets(most int) [][]api.Label {
	var l [][]api.Label
	for range s.Intn(most + 1) {
		l = append(l, s.set())
	}
	return l
}

// matchers answers one to three matchers.
func (s source) matchers() []api.Matcher {
	var l []api.Matcher
	for range 1 + s.Intn(3)*s.Intn(2) {
		m := api.Matcher{Op: 1 + s.Intn(4), Name: string(rune('a' + s.Intn(3))), Value: fmt.Sprint(1 + s.Intn(3))}
		if m.Op >= api.MRe {
			m.Value = []string{".+", ".*", "1|2", "[23]", "", "3"}[s.Intn(6)]
		}
		l = append(l, m)
	}
	return l
}

func (s source) inhibition() api.Inhibit {
	x := api.Inhibit{Source: s.matchers(), Target: s.matchers()}
	for _, at := range s.Perm(4)[:s.Intn(3)] {
		x.Equal = append(x.Equal, string(rune('a'+at)))
	}
	return x
}

func (s source) inhibitions(most int) []api.Inhibit {
	var l []api.Inhibit
	for range s.Intn(most + 1) {
		l = append(l, s.inhibition())
	}
	return l
}
