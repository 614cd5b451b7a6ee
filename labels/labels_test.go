package labels

import (
	"fmt"
	"hash/fnv"
	"math/rand"
	"slices"
	"sort"
	"strings"
	"testing"
	"unicode/utf8"

	"tocsin/api"
)

// of: labels of names and values in turn.
func of(texts ...string) []api.Label {
	var l []api.Label
	for i := 0; i+1 < len(texts); i += 2 {
		l = append(l, api.Label{Name: texts[i], Value: texts[i+1]})
	}
	return l
}

// numbered: so many labels, rising by name.
func numbered(n int) []api.Label {
	var l []api.Label
	for i := range n {
		l = append(l, api.Label{Name: fmt.Sprintf("l%05d", i), Value: fmt.Sprint(i)})
	}
	return l
}

func times(s string, n int) string { return strings.Repeat(s, n) }

// same: as lists, an empty one as nil.
func same(a, b []api.Label) bool { return slices.Equal(a, b) }

const letters = "abcdefghijklmnopqrstuvwxyzABCDEFGHIJKLMNOPQRSTUVWXYZ"

// modelName: a name by the words of the document.
func modelName(s string, more string, most int) bool {
	if s == "" || len(s) > most || !strings.Contains(letters+"_"+more, s[:1]) {
		return false
	}
	for i := range len(s) {
		if !strings.Contains(letters+"0123456789_"+more, s[i:i+1]) {
			return false
		}
	}
	return true
}

func modelRight(l []api.Label) (api.Errno, int) {
	if len(l) > 16 {
		return api.ErrFull, 0
	}
	for i := range l {
		switch {
		case !modelName(l[i].Name, "", 64):
			return api.ErrName, i
		case len(l[i].Value) == 0:
			return api.ErrLabel, i
		case len(l[i].Value) > 256:
			return api.ErrSize, i
		case !utf8.ValidString(l[i].Value):
			return api.ErrUtf, i
		case i > 0 && l[i].Name <= l[i-1].Name:
			return api.ErrForm, i
		}
	}
	return api.OK, 0
}

func modelMake(l []api.Label) ([]api.Label, api.Errno, int) {
	values := map[string]string{}
	var names []string
	for _, one := range l {
		if _, ok := values[one.Name]; ok {
			return nil, api.ErrTwice, 0
		}
		values[one.Name] = one.Value
		names = append(names, one.Name)
	}
	sort.Strings(names)
	var set []api.Label
	for _, name := range names {
		if values[name] != "" {
			set = append(set, api.Label{Name: name, Value: values[name]})
		}
	}
	if e, at := modelRight(set); e != api.OK {
		return nil, e, at
	}
	return set, api.OK, 0
}

// rightSets: sets at the edges, and others.
func rightSets() [][]api.Label {
	l := [][]api.Label{
		nil,
		{},
		of("a", "1"),
		of("__name__", "up"),
		of("__name__", "up", "job", "a\"b"),
		of("__name__", "a:b:c", "job", "x"),
		of("__name__", ":", "a", "1"),
		of("__name__", "no metric", "job", "x"),
		of("__name__", "1", "a", "2"),
		of("__name__", "up{", "a", "2"),
		of("A", "1", "__name__", "up", "a", "2"),
		of("_", "\\", "a", "\"", "b", "\n", "c", "\\n", "d", "\\\"", "e", "\\\\"),
		of("a", "é€\U0001F600", "b", " \t\r\x00", "c", "=,{}"),
		of("a", "\uFFFD"),
		of(times("a", 64), times("b", 256)),
		of("__name__", times("m", 256)),
		of("__name__", times("m", 256), "a", times("\\", 256)),
		of("__name__", "up", "a", "1", "aa", "2", "ab", "3"),
		numbered(15),
		numbered(16),
	}
	for i := range 16 {
		one := numbered(16)
		one[i].Name += times("x", 64-len(one[i].Name))
		one[i].Value = times("\n", 256)
		l = append(l, one)
	}
	r := rand.New(rand.NewSource(4))
	for range 200 {
		if set, e, _ := modelMake(anyLabels(r, 20)); e == api.OK {
			l = append(l, set)
		}
	}
	return l
}

// wrongSets: each with a fault, the edges among them.
func wrongSets() [][]api.Label {
	l := [][]api.Label{
		numbered(17),
		numbered(1000),
		make([]api.Label, 17),
		of("", "1"),
		of("1a", "1"),
		of("a:b", "1"),
		of("a-b", "1"),
		of("é", "1"),
		of("a\xff", "1"),
		of(times("a", 65), "1"),
		of(times("a", 65), ""),
		of("", ""),
		of("a", ""),
		of("a", times("b", 257)),
		of("a", times("\xff", 257)),
		of("a", "\xff"),
		of("a", "x\xc0\x80"),
		of("a", "\xed\xa0\x80"),
		of("a", "\xf4\x90\x80\x80"),
		of("a", "1", "a", "1"),
		of("b", "1", "a", "2"),
		of("b", "1", "a", ""),
		of("b", "1", "a", "\xff"),
		of("b", "1", "", "2"),
		of("a", "1", "b", "2", "b", "3"),
		of("a", "1", "b", "", "a", ""),
		of("__name__", "up", "A", "1"),
		append(numbered(15), api.Label{Name: "l00014", Value: "x"}),
		append(numbered(15), api.Label{Name: "m"}),
	}
	return l
}

var someNames = []string{"a", "b", "c", "__name__", "A", "_", "a1", "ab", "1", "", "a:b", "é", times("n", 64), times("n", 65)}

// anyLabels: short lists, mostly right.
func anyLabels(r *rand.Rand, most int) []api.Label {
	values := []string{"", "1", "2", "up", "a b", "\"", "\\", "\n", "\xff", times("v", 256), times("v", 257)}
	var l []api.Label
	for range r.Intn(most) {
		name := fmt.Sprintf("n%d", r.Intn(60))
		if r.Intn(6) == 0 {
			name = someNames[r.Intn(len(someNames))]
		}
		value := fmt.Sprint(r.Intn(5))
		if r.Intn(8) == 0 {
			value = values[r.Intn(len(values))]
		}
		l = append(l, api.Label{Name: name, Value: value})
	}
	return l
}

// anyLists: right ones, wrong ones, and others.
func anyLists() [][]api.Label {
	l := append(rightSets(), wrongSets()...)
	r := rand.New(rand.NewSource(5))
	for range 500 {
		l = append(l, anyLabels(r, 20))
	}
	return l
}

func TestP4_1_Names(t *testing.T) {
	texts := []string{"", "a", "_", ":", "1", "a1", "a:1", "_:", ":a", "a-", "-", "a ", " a", "é", "aé", "\xff", "__name__", "a.b"}
	for _, n := range []int{63, 64, 65, 255, 256, 257, 1000} {
		texts = append(texts, times("a", n), times("_", n), times("a", n-1)+":", times("a", n-1)+"-")
	}
	for c := range 256 {
		b := string([]byte{byte(c)})
		texts = append(texts, b, "a"+b, b+"a", "a"+b+"a")
	}
	for _, s := range texts {
		if ok, want := Name(s), modelName(s, "", 64); ok != want {
			t.Errorf("Name(%q): %v", s, ok)
		}
		if ok, want := Metric(s), modelName(s, ":", 256); ok != want {
			t.Errorf("Metric(%q): %v", s, ok)
		}
	}
}

func TestP4_1_Right(t *testing.T) {
	for _, l := range anyLists() {
		e, at := Right(l)
		if want, n := modelRight(l); e != want || at != n {
			t.Errorf("Right(%q): %d, %d, not %d, %d", l, e, at, want, n)
		}
	}
	for _, l := range rightSets() {
		if e, at := Right(l); e != api.OK || at != 0 {
			t.Errorf("Right(%q): %d, %d", l, e, at)
		}
	}
	for _, l := range wrongSets() {
		if e, _ := Right(l); e == api.OK {
			t.Errorf("Right(%q)", l)
		}
	}
	// Of one label the first fault is told, and of several labels the first one.
	for _, c := range []struct {
		l  []api.Label
		e  api.Errno
		at int
	}{
		{of("b", "1", "a", "2"), api.ErrForm, 1},
		{of("b", "1", "-", ""), api.ErrName, 1},
		{of("b", "1", "a", ""), api.ErrLabel, 1},
		{of("b", "1", "a", times("\xff", 257)), api.ErrSize, 1},
		{of("b", "1", "a", times("\xff", 256)), api.ErrUtf, 1},
		{of("b", "1", "b", "1"), api.ErrForm, 1},
		{of("a", "1", "c", "2", "b", "3", "-", ""), api.ErrForm, 2},
		{append(numbered(16), of("-", "")...), api.ErrFull, 0},
		{append(numbered(15), of("-", "")...), api.ErrName, 15},
	} {
		if e, at := Right(c.l); e != c.e || at != c.at {
			t.Errorf("Right(%q): %d, %d, not %d, %d", c.l, e, at, c.e, c.at)
		}
	}
}

func TestP4_2_Make(t *testing.T) {
	for _, l := range anyLists() {
		want, e, _ := modelMake(l)
		if set, got := Make(l); got != e || !same(set, want) || e != api.OK && set != nil {
			t.Errorf("Make(%q): %q, %d, not %q, %d", l, set, got, want, e)
		}
	}
	for _, c := range []struct {
		l    []api.Label
		want []api.Label
		e    api.Errno
	}{
		{of("b", "1", "a", "2", "c", ""), of("a", "2", "b", "1"), api.OK},
		{of("a", "", "b", ""), nil, api.OK},
		{of("a", "", "a", ""), nil, api.ErrTwice},
		{of("a", "1", "b", "2", "a", ""), nil, api.ErrTwice},
		{of("", "", "", ""), nil, api.ErrTwice},
		{of("", "", "-", ""), nil, api.OK},
		{of("-", "1", "-", "1"), nil, api.ErrTwice},
		{of("-", "1"), nil, api.ErrName},
		{append(numbered(17), of("l00003", "")...), nil, api.ErrTwice},
		{append(of("zz", "", "aa", ""), numbered(16)...), numbered(16), api.OK},
		{append(of("zz", "", "aa", "1"), numbered(16)...), nil, api.ErrFull},
		{numbered(3000), nil, api.ErrFull},
	} {
		if set, e := Make(c.l); e != c.e || !same(set, c.want) {
			t.Errorf("Make(%q): %q, %d, not %q, %d", c.l, set, e, c.want, c.e)
		}
	}
}

func TestP4_2_Get(t *testing.T) {
	l := of("b", "1", "a", "", "", "3", "b", "2", "a", "4", "-", "5")
	for name, want := range map[string]string{"b": "1", "a": "", "": "3", "-": "5", "c": "", "B": ""} {
		if s := Get(l, name); s != want {
			t.Errorf("Get(%q): %q, not %q", name, s, want)
		}
	}
	if s := Get(nil, "a"); s != "" {
		t.Error(s)
	}
}

// modelWith: by way of all labels of other names, and that one.
func modelWith(l []api.Label, name, value string) ([]api.Label, api.Errno) {
	if e, _ := modelRight(l); e != api.OK {
		return nil, e
	}
	if !modelName(name, "", 64) {
		return nil, api.ErrName
	}
	if len(value) > 256 {
		return nil, api.ErrSize
	}
	if !utf8.ValidString(value) {
		return nil, api.ErrUtf
	}
	var set []api.Label
	for _, one := range l {
		if one.Name != name {
			set = append(set, one)
		}
	}
	set = append(set, api.Label{Name: name, Value: value})
	set, e, _ := modelMake(set)
	return set, e
}

func TestP4_3_With(t *testing.T) {
	values := []string{"", "1", "é", times("v", 256), times("v", 257), "\xff", times("\xff", 257)}
	for _, l := range anyLists() {
		names := slices.Clone(someNames)
		for _, one := range l[:min(len(l), 17)] {
			names = append(names, one.Name, one.Name+"0", one.Name+"~")
		}
		for _, name := range names {
			for _, value := range values {
				want, e := modelWith(l, name, value)
				if set, got := With(l, name, value); got != e || !same(set, want) || e != api.OK && set != nil {
					t.Fatalf("With(%q, %q, %q): %q, %d, not %q, %d", l, name, value, set, got, want, e)
				}
			}
		}
	}
}

func TestP4_3_WithAtTheEdges(t *testing.T) {
	for _, c := range []struct {
		l           []api.Label
		name, value string
		want        []api.Label
		e           api.Errno
	}{
		{of("b", "2"), "a", "1", of("a", "1", "b", "2"), api.OK},
		{of("b", "2"), "c", "3", of("b", "2", "c", "3"), api.OK},
		{of("b", "2"), "b", "3", of("b", "3"), api.OK},
		{of("b", "2"), "b", "", nil, api.OK},
		{of("b", "2"), "c", "", of("b", "2"), api.OK},
		{of("b", ""), "-", "\xff", nil, api.ErrLabel},
		{of("b", "2"), "-", "", nil, api.ErrName},
		{of("b", "2"), "-", times("\xff", 257), nil, api.ErrName},
		{numbered(16), "x", "", numbered(16), api.OK},
		{numbered(16), "x", "1", nil, api.ErrFull},
		{numbered(16), "x", "\xff", nil, api.ErrUtf},
		{numbered(16), "x", times("\xff", 257), nil, api.ErrSize},
		{numbered(16), "l00015", "15", numbered(16), api.OK},
		{numbered(15), "l00015", "15", numbered(16), api.OK},
		{numbered(17), "x", "", nil, api.ErrFull},
	} {
		if set, e := With(c.l, c.name, c.value); e != c.e || !same(set, c.want) {
			t.Errorf("With(%q, %q, %q): %q, %d, not %q, %d", c.l, c.name, c.value, set, e, c.want, c.e)
		}
	}
}

func TestP4_3_WithoutAndKeep(t *testing.T) {
	r := rand.New(rand.NewSource(6))
	for _, l := range anyLists() {
		e, _ := modelRight(l)
		var names []string
		for range r.Intn(8) {
			if len(l) > 0 && r.Intn(2) == 0 {
				names = append(names, l[r.Intn(len(l))].Name)
			} else {
				names = append(names, someNames[r.Intn(len(someNames))], "\xff")
			}
		}
		var in, out []api.Label
		for _, one := range l {
			if slices.Contains(names, one.Name) {
				in = append(in, one)
			} else {
				out = append(out, one)
			}
		}
		if e != api.OK {
			in, out = nil, nil
		}
		was := slices.Clone(names)
		if set, got := Keep(l, names...); got != e || !same(set, in) || e != api.OK && set != nil {
			t.Errorf("Keep(%q, %q): %q, %d, not %q, %d", l, names, set, got, in, e)
		}
		if set, got := Without(l, names...); got != e || !same(set, out) || e != api.OK && set != nil {
			t.Errorf("Without(%q, %q): %q, %d, not %q, %d", l, names, set, got, out, e)
		}
		if !slices.Equal(names, was) {
			t.Error("the names were changed")
		}
	}
	l := of("a", "1", "b", "2")
	if set, e := Keep(l); e != api.OK || len(set) != 0 {
		t.Error("Keep of no names", set, e)
	}
	if set, e := Without(l); e != api.OK || !same(set, l) {
		t.Error("Without of no names", set, e)
	}
}

func TestP4_4_Compare(t *testing.T) {
	// Rising by the page's order; the lists need not be right ones.
	rising := [][]api.Label{
		nil,
		of("", ""),
		of("", "", "", ""),
		of("", "a"),
		of("A", "2"),
		of("__name__", "up"),
		of("a", ""),
		of("a", "1"),
		of("a", "1", "a", "0"),
		of("a", "1", "b", "1"),
		of("a", "1", "b", "2"),
		of("a", "10"),
		of("a", "2"),
		of("a", "z"),
		of("a", "é"),
		of("a", "\xff"),
		of("aa", "1"),
		of("b", "0", "a", "9"),
		of("b", "1"),
		of("é", "1"),
		of("\xff", "0"),
	}
	for i, a := range rising {
		for k, b := range rising {
			want := 0
			switch {
			case i < k:
				want = -1
			case i > k:
				want = 1
			}
			if n := Compare(a, b); n != want {
				t.Errorf("Compare(%q, %q): %d, not %d", a, b, n, want)
			}
			if n := Compare(slices.Clone(a), slices.Clone(b)); n != want {
				t.Errorf("Compare(%q, %q) of copies: %d, not %d", a, b, n, want)
			}
		}
	}
	if n := Compare(nil, []api.Label{}); n != 0 {
		t.Error("none and none", n)
	}
}

func TestP4_4_Hash(t *testing.T) {
	if h := Hash(nil); h != 14695981039346656037 {
		t.Error("of none", h)
	}
	if h := Hash([]api.Label{}); h != 14695981039346656037 {
		t.Error("of none", h)
	}
	for _, l := range anyLists() {
		f := fnv.New64a()
		for _, one := range l {
			f.Write([]byte(one.Name))
			f.Write([]byte{255})
			f.Write([]byte(one.Value))
			f.Write([]byte{255})
		}
		if h := Hash(l); h != f.Sum64() {
			t.Errorf("Hash(%q): %d, not %d", l, h, f.Sum64())
		}
	}
	// What stands in the name is not what stands in the value.
	if Hash(of("a", "b")) == Hash(of("ab", "")) || Hash(of("a", "bc")) == Hash(of("ab", "c")) {
		t.Error("name and value are not held apart")
	}
}

func TestP4_8_CompareIsAnOrder(t *testing.T) {
	l := anyLists()
	r := rand.New(rand.NewSource(8))
	for range 20000 {
		a, b, c := l[r.Intn(len(l))], l[r.Intn(len(l))], l[r.Intn(len(l))]
		if r.Intn(3) == 0 {
			b = slices.Clone(a)
			if len(b) > 0 {
				b[r.Intn(len(b))].Value += string(rune('0' + r.Intn(2)))[:r.Intn(2)]
			}
		}
		ab, ba, bc, ac := Compare(a, b), Compare(b, a), Compare(b, c), Compare(a, c)
		if ab != -ba || Compare(a, a) != 0 || (ab == 0) != slices.Equal(a, b) {
			t.Fatalf("%q, %q: %d, %d", a, b, ab, ba)
		}
		if ab <= 0 && bc <= 0 && ac > 0 || ab < 0 && bc <= 0 && ac >= 0 {
			t.Fatalf("%q, %q, %q: %d, %d, %d", a, b, c, ab, bc, ac)
		}
	}
}

func TestP4_10_MakeInAnyOrder(t *testing.T) {
	r := rand.New(rand.NewSource(10))
	for _, l := range anyLists() {
		want, e := Make(l)
		for range 5 {
			o := slices.Clone(l)
			r.Shuffle(len(o), func(i, k int) { o[i], o[k] = o[k], o[i] })
			if set, got := Make(o); got != e || !same(set, want) {
				t.Errorf("Make(%q): %q, %d, not %q, %d", o, set, got, want, e)
			}
		}
	}
	for _, l := range rightSets() {
		if set, e := Make(l); e != api.OK || !same(set, l) {
			t.Errorf("Make(%q): %q, %d", l, set, e)
		}
	}
}

func TestP4_11_WithThenGet(t *testing.T) {
	for _, l := range rightSets() {
		for _, name := range []string{"a", "zz", "__name__", "l00003", "L"} {
			for _, value := range []string{"", "7", "é\n"} {
				set, e := With(l, name, value)
				if e == api.ErrFull && len(l) == 16 {
					continue
				}
				if s := Get(set, name); e != api.OK || s != value {
					t.Errorf("With(%q, %q, %q), Get: %q, %d", l, name, value, s, e)
				}
			}
		}
		names := []string{"a", "__name__", "l00001", "l00002", "n1", "n2", "n3"}
		in, e := Keep(l, names...)
		out, f := Without(l, names...)
		if set, g := Make(append(in, out...)); e != api.OK || f != api.OK || g != api.OK || !same(set, l) {
			t.Errorf("Keep and Without of %q: %q, %q", l, in, out)
		}
	}
}

// Whatever is answered may be written into, and what is handed in later, without being seen.
func TestP4_Memory(t *testing.T) {
	for _, l := range anyLists() {
		was := slices.Clone(l)
		roomy := append(make([]api.Label, 0, len(l)+8), l...)
		for _, in := range [][]api.Label{l, roomy} {
			a, _ := Make(in)
			b, _ := With(in, "b", "x")
			c, _ := With(in, "b", "")
			d, _ := Without(in, "a")
			e, _ := Keep(in, "a", "b", "l00001", "n1", "__name__")
			f, _ := Without(in)
			for _, out := range [][]api.Label{a, b, c, d, e, f} {
				_ = append(out, api.Label{Name: "!", Value: "!"})
				out = out[:cap(out)]
				for i := range out {
					out[i] = api.Label{Name: "!", Value: "!"}
				}
			}
			Compare(in, l)
			Hash(in)
			Print(in)
			Right(in)
			if !slices.Equal(in, was) {
				t.Fatalf("%q was changed to %q", was, in)
			}
		}
		for _, one := range roomy[len(l):cap(roomy)] {
			if one != (api.Label{}) {
				t.Fatalf("%q was written behind its end", was)
			}
		}
	}
}
