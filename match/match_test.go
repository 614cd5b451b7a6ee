package match

import (
	"math"
	"math/rand"
	"runtime"
	"slices"
	"strings"
	"sync"
	"testing"
	"time"
	"unicode/utf8"

	"tocsin/api"
	"tocsin/labels"
	"tocsin/regex"
)

func times(s string, n int) string { return strings.Repeat(s, n) }

func eq(name, value string) api.Matcher  { return api.Matcher{Op: api.MEq, Name: name, Value: value} }
func ne(name, value string) api.Matcher  { return api.Matcher{Op: api.MNe, Name: name, Value: value} }
func re(name, value string) api.Matcher  { return api.Matcher{Op: api.MRe, Name: name, Value: value} }
func nre(name, value string) api.Matcher { return api.Matcher{Op: api.MNre, Name: name, Value: value} }

// of: labels of names and values in turn.
func of(texts ...string) []api.Label {
	var l []api.Label
	for i := 0; i+1 < len(texts); i += 2 {
		l = append(l, api.Label{Name: texts[i], Value: texts[i+1]})
	}
	return l
}

// modelRight: by the words of the document.
func modelRight(m api.Matcher) api.Errno {
	switch {
	case m.Op != api.MEq && m.Op != api.MNe && m.Op != api.MRe && m.Op != api.MNre:
		return api.ErrOp
	case !labels.Name(m.Name):
		return api.ErrName
	case !utf8.ValidString(m.Value):
		return api.ErrUtf
	case len(m.Value) > 256:
		return api.ErrSize
	case m.Op == api.MRe || m.Op == api.MNre:
		_, e, _ := regex.Compile(m.Value)
		return e
	}
	return api.OK
}

func modelValue(m api.Matcher, v string) bool {
	if modelRight(m) != api.OK {
		return false
	}
	r, _, _ := regex.Compile(m.Value)
	return map[int]bool{api.MEq: m.Value == v, api.MNe: m.Value != v, api.MRe: r.Match(v), api.MNre: !r.Match(v)}[m.Op]
}

func modelLabels(m api.Matcher, l []api.Label) bool {
	for _, one := range l {
		if one.Name == m.Name {
			return modelValue(m, one.Value)
		}
	}
	return modelValue(m, "")
}

func modelList(l []api.Matcher) (api.Errno, int) {
	if len(l) > 16 {
		return api.ErrFull, 0
	}
	for i, m := range l {
		if e := modelRight(m); e != api.OK {
			return e, i
		}
	}
	return api.OK, 0
}

// rightOnes: matchers at the edges, and others.
func rightOnes() []api.Matcher {
	var l []api.Matcher
	for _, name := range []string{"a", "_", "__name__", "job", times("n", 64)} {
		for _, v := range []string{"", "a", "a|b", "a+", ".*", ".+", "x", "é", "\n", "\\\\", "\"", "a{2}", "(a|b)*c?", times("v", 256), times("é", 128), "\uFFFD"} {
			for op := api.MEq; op <= api.MNre; op++ {
				l = append(l, api.Matcher{Op: op, Name: name, Value: v})
			}
		}
	}
	return append(l, eq("a", "("), ne("a", "a{3,2}"), eq("a", "\\"), ne("a", "^$"), eq("a", times("(", 256)))
}

// wrongOnes: each with its first fault.
func wrongOnes() []struct {
	m api.Matcher
	e api.Errno
} {
	type one = struct {
		m api.Matcher
		e api.Errno
	}
	l := []one{
		{api.Matcher{}, api.ErrOp},
		{api.Matcher{Op: 5, Name: "a"}, api.ErrOp},
		{api.Matcher{Op: -1, Name: "a"}, api.ErrOp},
		{api.Matcher{Op: math.MaxInt, Name: "a"}, api.ErrOp},
		{api.Matcher{Op: math.MinInt, Name: "a"}, api.ErrOp},
		// Of several faults the first.
		{api.Matcher{Op: 0, Name: "", Value: times("\xff", 257)}, api.ErrOp},
		{re("", times("\xff", 257)), api.ErrName},
		{re("1a", "("), api.ErrName},
		{re("a", times("\xff", 257)), api.ErrUtf},
		{re("a", times("(", 256)+"\xff"), api.ErrUtf},
		{re("a", times("(", 257)), api.ErrSize},
		{re("a", "("), api.ErrRegex},
		{nre("a", "a**"), api.ErrRegex},
		{nre("a", times("(", 51)), api.ErrDeep},
		{re("a", "(a{99}){99}"), api.ErrLarge},
		{re("a", times("(", 51)+"a"), api.ErrDeep},
		{nre("a", times(")", 256)), api.ErrRegex},
	}
	for op := api.MEq; op <= api.MNre; op++ {
		for _, name := range []string{"", "1", "a:b", "a-b", "é", "a\xff", " a", times("n", 65), ":"} {
			l = append(l, one{api.Matcher{Op: op, Name: name, Value: "x"}, api.ErrName})
		}
		for _, v := range []string{"\xff", "a\xc3", "\xed\xa0\x80", times("a", 256) + "\xff"} {
			l = append(l, one{api.Matcher{Op: op, Name: "a", Value: v}, api.ErrUtf})
		}
		for _, v := range []string{times("a", 257), times("é", 129), times("a", 100000)} {
			l = append(l, one{api.Matcher{Op: op, Name: "a", Value: v}, api.ErrSize})
		}
	}
	return l
}

var someValues = []string{"", "a", "b", "c", "aa", "ab", "x", "é", "\n", "\\", "\"", "\xff", "\uFFFD", "a|b", ".*", "(", times("v", 256), times("v", 257), times("a", 1000)}

func TestExamples(t *testing.T) {
	l, e, at := Parse(`{job=~"a|b",x!=""}`)
	if e != api.OK || at != 0 || !slices.Equal(l, []api.Matcher{re("job", "a|b"), ne("x", "")}) {
		t.Fatal(l, e, at)
	}
	if ok, e := All(l, of("job", "a", "x", "1")); !ok || e != api.OK {
		t.Error("job a, x 1", ok, e)
	}
	if ok, e := All(l, of("job", "a")); ok || e != api.OK {
		t.Error("job a", ok, e)
	}
	if New(ne("x", "")).Empty() || !New(eq("x", "")).Empty() || !New(nre("x", "a+")).Empty() {
		t.Error("Empty")
	}
	if l, e, at := Parse(`{a="1" , b!~"c.*",}`); e != api.OK || at != 0 || !slices.Equal(l, []api.Matcher{eq("a", "1"), nre("b", "c.*")}) {
		t.Error(l, e, at)
	}
	if l, e, at := Parse(`{a=="1"}`); l != nil || e != api.ErrForm || at != 3 {
		t.Error(l, e, at)
	}
	if e := New(re("a", "(")).Right(); e != api.ErrRegex {
		t.Error(e)
	}
}

func TestP6_1_Right(t *testing.T) {
	for _, m := range rightOnes() {
		if e := New(m).Right(); e != api.OK {
			t.Errorf("Right of %+v: %d", m, e)
		}
	}
	for _, c := range wrongOnes() {
		x := New(c.m)
		if x == nil {
			t.Fatalf("New(%+v)", c.m)
		}
		for range 2 {
			if e := x.Right(); e != c.e {
				t.Errorf("Right of %+v: %d, not %d", c.m, e, c.e)
			}
		}
		if e := modelRight(c.m); e != c.e {
			t.Errorf("the model of %+v: %d, not %d", c.m, e, c.e)
		}
	}
}

func TestP6_1_Value(t *testing.T) {
	for _, c := range []struct {
		m    api.Matcher
		v    string
		want bool
	}{
		{eq("a", "1"), "1", true}, {eq("a", "1"), "2", false}, {eq("a", "1"), "", false}, {eq("a", ""), "", true}, {eq("a", ""), "1", false}, {eq("a", ".*"), "x", false}, {eq("a", "\uFFFD"), "\xff", false},
		{ne("a", "1"), "1", false}, {ne("a", "1"), "2", true}, {ne("a", "1"), "", true}, {ne("a", ""), "", false}, {ne("a", ""), "1", true}, {ne("a", ".*"), "x", true},
		{re("a", "1|2"), "1", true}, {re("a", "1|2"), "2", true}, {re("a", "1|2"), "12", false}, {re("a", "1|2"), "", false}, {re("a", ""), "", true}, {re("a", ""), "a", false}, {re("a", "b"), "abc", false}, {re("a", "\uFFFD"), "\xff", true},
		{nre("a", "1|2"), "1", false}, {nre("a", "1|2"), "12", true}, {nre("a", "1|2"), "", true}, {nre("a", ""), "", false}, {nre("a", ""), "a", true}, {nre("a", "b"), "abc", true}, {nre("a", ".*"), "\n", true},
	} {
		if New(c.m).Value(c.v) != c.want {
			t.Errorf("%+v, %q: not %v", c.m, c.v, c.want)
		}
	}
	for _, m := range rightOnes() {
		x := New(m)
		for _, v := range someValues {
			if x.Value(v) != modelValue(m, v) {
				t.Errorf("%+v, %q: %v", m, v, x.Value(v))
			}
		}
		if x.Empty() != modelValue(m, "") {
			t.Errorf("Empty of %+v: %v", m, x.Empty())
		}
	}
}

func TestP6_1_Labels(t *testing.T) {
	lists := [][]api.Label{
		nil, {}, of("a", "a"), of("a", ""), of("b", "a"), of("a", "b", "job", "a"), of("a", "a", "a", "b"), of("a", "b", "a", "a"), of("a", "", "a", "a"),
		of("z", "1", "job", "ab", "a", "x"), of("__name__", "a", "_", "b"), of("", "a", "a", "\xff"), of(times("n", 64), times("v", 256)), of("a", times("v", 257)),
		make([]api.Label, 100),
	}
	for _, m := range rightOnes() {
		for _, l := range lists {
			x := New(m)
			if x.Labels(l) != modelLabels(m, l) {
				t.Errorf("%+v, %q: %v", m, l, x.Labels(l))
			}
		}
	}
	// A label that is not there has the empty value; of several of its name the first is held against.
	if !New(eq("a", "")).Labels(of("b", "1")) || New(eq("a", "1")).Labels(of("b", "1")) || !New(ne("a", "1")).Labels(nil) {
		t.Error("no such label")
	}
	if !New(eq("a", "1")).Labels(of("a", "1", "a", "2")) || New(eq("a", "2")).Labels(of("a", "1", "a", "2")) {
		t.Error("the first one")
	}
}

func TestP6_1_NilAndWrong(t *testing.T) {
	var none *Matcher
	if none.Right() != api.ErrNil {
		t.Error("Right", none.Right())
	}
	all := []*Matcher{none, {}}
	for _, c := range wrongOnes() {
		all = append(all, New(c.m))
	}
	for _, x := range all {
		// Whichever is asked first.
		for _, v := range someValues {
			if x.Value(v) || x.Labels(of("a", v)) || x.Labels(nil) || x.Empty() {
				t.Errorf("%q", v)
			}
		}
	}
	for _, x := range all {
		if got := x.Many(someValues); len(got) != len(someValues) || slices.Contains(got, true) {
			t.Error("Many", got)
		}
		if got := x.Many(nil); len(got) != 0 {
			t.Error("Many of none", got)
		}
	}
	// A wrong MNre and a wrong MNe match nothing either.
	if New(nre("a", "(")).Value("x") || New(ne("", "a")).Value("x") {
		t.Error("a wrong one matches")
	}
}

// The first call of a new object answers as every later one, whichever call that is.
func TestP6_1_WhicheverIsAskedFirst(t *testing.T) {
	for _, m := range rightOnes() {
		if New(m).holds != nil {
			t.Errorf("%+v is compiled ahead of the first question", m)
		}
		if New(m).Value("a") != modelValue(m, "a") || New(m).Empty() != modelValue(m, "") || New(m).Labels(of("a", "b")) != modelLabels(m, of("a", "b")) || New(m).Right() != api.OK {
			t.Errorf("%+v", m)
		}
		if got := New(m).Many([]string{"a"}); len(got) != 1 || got[0] != modelValue(m, "a") {
			t.Errorf("Many of %+v: %v", m, got)
		}
	}
}

func TestP6_1_ByManyAtOnce(t *testing.T) {
	l := []api.Matcher{re("a", "(a|b)*c?"), nre("a", "a+"), eq("a", "a"), ne("a", ""), re("a", "("), api.Matcher{Op: 9}}
	for range 50 {
		for _, m := range l {
			x := New(m)
			want := modelRight(m)
			var all sync.WaitGroup
			for n := range 24 {
				all.Add(1)
				go func() {
					defer all.Done()
					v := someValues[n%len(someValues)]
					switch n % 5 {
					case 0:
						if x.Right() != want {
							t.Errorf("Right of %+v", m)
						}
					case 1:
						if x.Value(v) != modelValue(m, v) {
							t.Errorf("Value of %+v", m)
						}
					case 2:
						if x.Labels(of("a", v)) != modelValue(m, v) {
							t.Errorf("Labels of %+v", m)
						}
					case 3:
						if x.Empty() != modelValue(m, "") {
							t.Errorf("Empty of %+v", m)
						}
					case 4:
						if got := x.Many([]string{v, ""}); got[0] != modelValue(m, v) || got[1] != modelValue(m, "") {
							t.Errorf("Many of %+v", m)
						}
					}
				}()
			}
			all.Wait()
		}
	}
}

func TestP6_9_Many(t *testing.T) {
	for _, m := range append(rightOnes(), re("a", "(a|ab)*b{0,3}")) {
		want := make([]bool, len(someValues))
		for i, v := range someValues {
			want[i] = modelValue(m, v)
		}
		for _, n := range []int{0, 1, 2, 15, 16, 17, 31, 32, 33, 100} {
			var texts []string
			for i := range n {
				texts = append(texts, someValues[(i*7+n)%len(someValues)])
			}
			was := slices.Clone(texts)
			// Nobody has asked it yet.
			got := New(m).Many(texts)
			if len(got) != n {
				t.Fatalf("Many of %+v: %d of %d", m, len(got), n)
			}
			for i, v := range texts {
				if got[i] != want[(i*7+n)%len(someValues)] {
					t.Fatalf("Many of %+v, %q: %v", m, v, got[i])
				}
			}
			if !slices.Equal(texts, was) {
				t.Fatal("the texts were changed")
			}
		}
	}
}

// What Many answers is new memory, and no goroutine of it is left.
func TestP6_1_ManyEnds(t *testing.T) {
	x := New(re("a", "(a|b)*"))
	before := runtime.NumGoroutine()
	texts := make([]string, 1000)
	for i := range texts {
		texts[i] = times("ab", i%50) + times("c", i%2)
	}
	first := x.Many(texts)
	for i := range first {
		if first[i] != (i%2 == 0) {
			t.Fatal(i, first[i])
		}
		first[i] = !first[i]
	}
	_ = append(first[:10], true, true)
	for i, ok := range x.Many(texts) {
		if ok != (i%2 == 0) {
			t.Fatal("again", i, ok)
		}
	}
	// One that has told its end may need a moment until it is gone.
	for n := 0; runtime.NumGoroutine() > before && n < 10000; n++ {
		time.Sleep(time.Millisecond)
	}
	if after := runtime.NumGoroutine(); after > before {
		t.Error("goroutines", before, after)
	}
}

// Each text is asked by a goroutine of its own, and at most 16 are at it at a time: what a value is held against counts them here, and waits until all have come that may come.
func TestP6_1_ManyAtATime(t *testing.T) {
	x := New(re("a", "x"))
	x.Right()
	var lock sync.Mutex
	now, most, asked := 0, 0, 0
	x.holds = func(v string) bool {
		lock.Lock()
		now++
		asked++
		most = max(most, now)
		lock.Unlock()
		for n := 0; n < 1000; n++ {
			runtime.Gosched()
		}
		lock.Lock()
		now--
		lock.Unlock()
		return v == "x"
	}
	for _, n := range []int{1, 16, 17, 100} {
		now, most, asked = 0, 0, 0
		got := x.Many(slices.Repeat([]string{"x"}, n))
		if len(got) != n || slices.Contains(got, false) || asked != n || now != 0 || most > 16 {
			t.Errorf("%d texts: %d answers, %d asked, %d at a time", n, len(got), asked, most)
		}
	}
	var all sync.WaitGroup
	all.Add(16)
	x.holds = func(v string) bool {
		// None of the sixteen goes on ahead of the last.
		all.Done()
		all.Wait()
		return true
	}
	if got := x.Many(make([]string, 16)); slices.Contains(got, false) {
		t.Error(got)
	}
}

func TestP6_2_Right(t *testing.T) {
	right := slices.Repeat([]api.Matcher{eq("a", "1"), re("b", "x.*")}, 8)
	for n := range 17 {
		if e, at := Right(right[:n]); e != api.OK || at != 0 {
			t.Error(n, e, at)
		}
	}
	if e, at := Right(append(slices.Clone(right), eq("a", "1"))); e != api.ErrFull || at != 0 {
		t.Error("one more", e, at)
	}
	if e, at := Right(make([]api.Matcher, 17)); e != api.ErrFull || at != 0 {
		t.Error("too many wrong ones", e, at)
	}
	if e, at := Right(nil); e != api.OK || at != 0 {
		t.Error("nil", e, at)
	}
	for i := range 16 {
		for _, c := range wrongOnes() {
			l := slices.Clone(right)
			l[i] = c.m
			if i < 15 {
				// A wrong one behind it plays no part.
				l[15] = api.Matcher{Op: 77}
			}
			if e, at := Right(l); e != c.e || at != i {
				t.Errorf("Right with %+v at %d: %d, %d", c.m, i, e, at)
			}
		}
	}
}

// anyMatchers: short lists, mostly right.
func anyMatchers(r *rand.Rand, most int) []api.Matcher {
	values := []string{"", "a", "b", "a|b", "a.*", ".+", "x", "é", "\\n", "\n", "\"", "\\\\"}
	var l []api.Matcher
	for range r.Intn(most + 1) {
		m := api.Matcher{Op: 1 + r.Intn(4), Name: []string{"a", "b", "c", "job"}[r.Intn(4)], Value: values[r.Intn(len(values))]}
		if r.Intn(60) == 0 {
			m = wrongOnes()[r.Intn(40)].m
		}
		l = append(l, m)
	}
	return l
}

func anyLabels(r *rand.Rand) []api.Label {
	var l []api.Label
	for range r.Intn(5) {
		l = append(l, api.Label{Name: []string{"a", "b", "c", "job", "other"}[r.Intn(5)], Value: []string{"", "a", "b", "ax", "x", "\n"}[r.Intn(6)]})
	}
	return l
}

func TestP6_2_All(t *testing.T) {
	if ok, e := All(nil, nil); !ok || e != api.OK {
		t.Error("none", ok, e)
	}
	if ok, e := All([]api.Matcher{}, of("a", "1")); !ok || e != api.OK {
		t.Error("none", ok, e)
	}
	if ok, e := All(slices.Repeat([]api.Matcher{eq("a", "1")}, 16), of("a", "1")); !ok || e != api.OK {
		t.Error("sixteen", ok, e)
	}
	if ok, e := All(slices.Repeat([]api.Matcher{eq("a", "1")}, 17), of("a", "1")); ok || e != api.ErrFull {
		t.Error("seventeen", ok, e)
	}
	// A wrong one is told even where one ahead of it does not match.
	if ok, e := All([]api.Matcher{eq("a", "1"), re("a", "(")}, nil); ok || e != api.ErrRegex {
		t.Error("wrong", ok, e)
	}
	r := rand.New(rand.NewSource(62))
	for range 5000 {
		l, s := anyMatchers(r, 4), anyLabels(r)
		e, at := modelList(l)
		want := e == api.OK
		for _, m := range l {
			want = want && modelLabels(m, s)
		}
		wasL, wasS := slices.Clone(l), slices.Clone(s)
		if ok, got := All(l, s); ok != want || got != e {
			t.Fatalf("All(%+v, %q): %v, %d, not %v, %d", l, s, ok, got, want, e)
		}
		x, got, place := Compile(l)
		if got != e || place != at || (x != nil) != (e == api.OK) || x.Labels(s) != want {
			t.Fatalf("Compile(%+v): %d, %d, %v", l, got, place, x.Labels(s))
		}
		if !slices.Equal(l, wasL) || !slices.Equal(s, wasS) {
			t.Fatal("what was handed in was changed")
		}
	}
}

func TestP6_3_List(t *testing.T) {
	for _, c := range []struct {
		l    []api.Matcher
		some bool
	}{
		{nil, false},
		{[]api.Matcher{eq("a", "")}, false},
		{[]api.Matcher{eq("a", "1")}, true},
		{[]api.Matcher{ne("a", "1")}, false},
		{[]api.Matcher{ne("a", "")}, true},
		{[]api.Matcher{re("a", ".*")}, false},
		{[]api.Matcher{re("a", ".+")}, true},
		{[]api.Matcher{nre("a", "a+")}, false},
		{[]api.Matcher{nre("a", "a*")}, true},
		{[]api.Matcher{eq("a", ""), re("b", "x?"), nre("c", "x")}, false},
		{[]api.Matcher{eq("a", ""), re("b", "x?"), nre("c", "x?")}, true},
		{append(slices.Repeat([]api.Matcher{eq("a", "")}, 15), ne("b", "")), true},
	} {
		x, e, at := Compile(c.l)
		if x == nil || e != api.OK || at != 0 {
			t.Fatalf("Compile(%+v): %d, %d", c.l, e, at)
		}
		if x.Some() != c.some || x.Len() != len(c.l) {
			t.Errorf("%+v: %v, %d", c.l, x.Some(), x.Len())
		}
	}
	if x, e, at := Compile(make([]api.Matcher, 17)); x != nil || e != api.ErrFull || at != 0 {
		t.Error("too many", x, e, at)
	}
	if x, e, at := Compile([]api.Matcher{eq("a", ""), eq("b", ""), nre("c", "a{")}); x != nil || e != api.ErrRegex || at != 2 {
		t.Error("wrong", x, e, at)
	}
	var none *List
	if none.Labels(nil) || none.Labels(of("a", "1")) || none.Some() || none.Len() != 0 {
		t.Error("nil")
	}
	// One that Compile has not made is one of none.
	if x := (&List{}); !x.Labels(nil) || x.Some() || x.Len() != 0 {
		t.Error("zero")
	}
}

// A list that is handed in is not kept.
func TestP6_3_Memory(t *testing.T) {
	l := []api.Matcher{eq("a", "1"), re("b", "x.*")}
	x, _, _ := Compile(l)
	l[0], l[1] = eq("z", "9"), re("z", "(")
	for range 2 {
		if !x.Labels(of("a", "1", "b", "xy")) || x.Labels(of("a", "2", "b", "xy")) || x.Labels(of("z", "9")) || !x.Some() || x.Len() != 2 {
			t.Error("the list is kept")
		}
	}
}

func TestP6_3_ByManyAtOnce(t *testing.T) {
	x, _, _ := Compile([]api.Matcher{re("a", "(x|y)+"), nre("b", "z*")})
	var all sync.WaitGroup
	for range 32 {
		all.Add(1)
		go func() {
			defer all.Done()
			for range 100 {
				if !x.Labels(of("a", "xy", "b", "a")) || x.Labels(of("a", "xy")) || !x.Some() || x.Len() != 2 {
					t.Error("as to one")
				}
			}
		}()
	}
	all.Wait()
}

func TestP6_5_NotTheOther(t *testing.T) {
	for _, m := range rightOnes() {
		other := m
		other.Op = map[int]int{api.MEq: api.MNe, api.MNe: api.MEq, api.MRe: api.MNre, api.MNre: api.MRe}[m.Op]
		x, y := New(m), New(other)
		if x.Right() != api.OK || y.Right() != api.OK {
			continue
		}
		for _, v := range someValues {
			if x.Value(v) == y.Value(v) || x.Labels(of(m.Name, v)) == y.Labels(of(m.Name, v)) {
				t.Errorf("%+v and its other one, %q", m, v)
			}
		}
	}
}

func TestP6_6_Quote(t *testing.T) {
	for _, v := range []string{"", "a", "a.b", "*+?", "(|)", "[]{}", "^$", "\\", "a\nb\r\t", "é", "-/", "a|b", "\uFFFD"} {
		x, y := New(re("a", regex.Quote(v))), New(eq("a", v))
		if x.Right() != api.OK {
			t.Fatalf("Quote(%q): %d", v, x.Right())
		}
		for _, w := range append(slices.Clone(someValues), v, v+"a", "a"+v, regex.Quote(v), "axb") {
			if utf8.ValidString(w) && x.Value(w) != y.Value(w) {
				t.Errorf("%q, %q: %v", v, w, x.Value(w))
			}
		}
	}
}

func TestP6_7_AllGoesOn(t *testing.T) {
	r := rand.New(rand.NewSource(67))
	for range 3000 {
		a, b, s := anyMatchers(r, 4), anyMatchers(r, 4), anyLabels(r)
		x, e := All(a, s)
		y, f := All(b, s)
		both := append(slices.Clone(a), b...)
		if e != api.OK || f != api.OK {
			continue
		}
		if ok, e := All(both, s); ok != (x && y) || e != api.OK {
			t.Fatalf("All(%+v, %q): %v, %d", both, s, ok, e)
		}
		// Labels of other names play no part, wherever they stand.
		more := append(append(of("other", "1"), s...), of("another", "a")...)
		if ok, _ := All(both, more); ok != (x && y) {
			t.Fatalf("All(%+v, %q): %v", both, more, ok)
		}
	}
}
