package block

import (
	"bytes"
	"encoding/hex"
	"fmt"
	"math"
	"math/rand"
	"slices"
	"sort"
	"strconv"
	"strings"
	"sync"
	"testing"

	"tocsin/api"
	"tocsin/labels"
	"tocsin/match"
)

var (
	stale     = math.Float64frombits(0x7ff0000000000002)
	theNaN    = math.Float64frombits(0x7ff8000000000001)
	otherNaN  = math.Float64frombits(0xfff8000000000002)
	minusZero = math.Copysign(0, -1)
)

// noise answers n samples whose values have nothing in common.
func noise(n int, seed int64) []api.Sample {
	r := rand.New(rand.NewSource(seed))
	var l []api.Sample
	for i := range n {
		l = append(l, at(int64(1000*i), math.Float64frombits(r.Uint64())))
	}
	return l
}

// long answers a series whose frame's content has just so many bytes, from some 1000 on.
func long(t testing.TB, name string, size int) api.Series {
	t.Helper()
	all := noise(8000, 1)
	n := sort.Search(len(all), func(n int) bool { return len(modelContent(api.Series{Samples: all[:n]})) >= size-600 })
	return padded(t, name, all[:n], size)
}

// numbered answers n series with one sample each.
func numbered(n int, name string) []api.Series {
	var l []api.Series
	for i := range n {
		l = append(l, series1([]api.Sample{at(int64(i), float64(i))}, name, strconv.Itoa(i)))
	}
	return l
}

// shop: series that have some labels, others not, in no order.
func shop() []api.Series {
	return []api.Series{
		series1(every(3), "job", "b"),
		series1([]api.Sample{at(5, 1), at(6, stale), at(7, theNaN), at(8, otherNaN), at(9, minusZero)}, "__name__", "up", "job", "a"),
		series1(every(121), "__name__", "up", "job", "b"),
		series1([]api.Sample{at(0, 1), at(1<<50, 2)}, "__name__", "down"),
		series1(every(240), "job", "a", "x", "1"),
		series1(every(1), "job", "a"),
		series1(every(120), "x", "é"),
		series1(every(2), "job", "ab"),
		series1(every(5)),
		series1(every(7), "a", "1"),
	}
}

func TestExamples(t *testing.T) {
	b, e, i := Build(nil)
	if e != api.OK || i != 0 || len(b) != 17 || string(b[:8]) != "TOCBLK01" || b[8] != 4 || !bytes.Equal(b[13:], []byte{0, 0, 0, 0}) {
		t.Fatal(hex.EncodeToString(b), e, i)
	}
	x := opened(t, []api.Series{series1(every(1), "a", "1"), series1(every(1), "a", "2")})
	if l := x.Postings("a", "2"); !slices.Equal(l, []int{1}) {
		t.Error(l)
	}
	if l := x.Postings("b", ""); !slices.Equal(l, []int{0, 1}) {
		t.Error(l)
	}
}

func TestP10_1_Bytes(t *testing.T) {
	// The whole form, byte by byte.
	b := mustBuild(t, []api.Series{series1([]api.Sample{at(1000, 1)}, "a", "1")})
	want := "544f43424c4b3031" + "06" + "????????" + "0101e807e807" + "13" + "????????" + "0101610131" + "01" + "0c" + "0001d00f3ff0000000000000"
	got := hex.EncodeToString(b)
	for i := range want {
		if len(got) != len(want) || want[i] != '?' && want[i] != got[i] {
			t.Fatal(got, want)
		}
	}
	for _, l := range [][]api.Series{nil, {}, shop(), shop()[:1], {series1(every(1))}, {series1(every(1), "a", "1")}, numbered(1000, "n")} {
		for range 3 {
			if b := mustBuild(t, l); !bytes.Equal(b, modelBytes(l)) {
				t.Fatalf("%x, not %x", b, modelBytes(l))
			}
			slices.Reverse(l)
			rand.New(rand.NewSource(1)).Shuffle(len(l), func(i, j int) { l[i], l[j] = l[j], l[i] })
		}
	}
}

func TestP10_1_Order(t *testing.T) {
	want := mustBuild(t, sorted(shop()))
	falling := sorted(shop())
	slices.Reverse(falling)
	if !bytes.Equal(mustBuild(t, falling), want) || !bytes.Equal(mustBuild(t, shop()), want) {
		t.Error("the order of the list is seen")
	}
	var sets [][]api.Label
	for s := range mustOpen(t, want).All() {
		sets = append(sets, s.Labels)
	}
	for i := 1; i < len(sets); i++ {
		if labels.Compare(sets[i-1], sets[i]) >= 0 {
			t.Error("they do not rise", sets[i-1], sets[i])
		}
	}
}

func TestP10_1_Counts(t *testing.T) {
	for _, n := range []int{1, 2, 119, 120, 121, 239, 240, 241, 1000} {
		l := []api.Series{series1(every(n), "a", "1")}
		b := mustBuild(t, l)
		if !bytes.Equal(b, modelBytes(l)) {
			t.Fatal(n)
		}
		if x := mustOpen(t, b); x.Samples() != n || x.Len() != 1 || !same(slices.Collect(x.All()), l) {
			t.Fatal(n)
		}
	}
}

func TestP10_1_Faults(t *testing.T) {
	fine := series1(every(2), "a", "1")
	many := api.Series{Samples: every(1)}
	for i := range 17 {
		many.Labels = append(many.Labels, api.Label{Name: fmt.Sprintf("l%02d", i), Value: "x"})
	}
	huge := series1(noise(8000, 2), "b", "1")
	for _, c := range []struct {
		name string
		s    api.Series
		want api.Errno
	}{
		{"many labels", many, api.ErrFull},
		{"no name", series1(every(1), "", "1"), api.ErrName},
		{"no right name", series1(every(1), "a:b", "1"), api.ErrName},
		{"a long name", series1(every(1), strings.Repeat("n", 65), "1"), api.ErrName},
		{"an empty value", series1(every(1), "a", ""), api.ErrLabel},
		{"a long value", series1(every(1), "a", strings.Repeat("v", 257)), api.ErrSize},
		{"no UTF-8", series1(every(1), "a", "\xff"), api.ErrUtf},
		{"not rising", series1(every(1), "b", "1", "a", "1"), api.ErrForm},
		{"a name twice", series1(every(1), "a", "1", "a", "1"), api.ErrForm},
		{"labels first", series1(nil, "a", ""), api.ErrLabel},
		{"labels first", series1([]api.Sample{at(-1, 1)}, "a", "\xff"), api.ErrUtf},
		{"twice", series1(every(1), "a", "1"), api.ErrTwice},
		{"twice, none", series1(nil, "a", "1"), api.ErrTwice},
		{"twice, old", series1([]api.Sample{at(2, 1), at(1, 1)}, "a", "1"), api.ErrTwice},
		{"none", series1(nil, "b", "1"), api.ErrNone},
		{"none", series1([]api.Sample{}, "b", "1"), api.ErrNone},
		{"below 0", series1([]api.Sample{at(-1, 1)}, "b", "1"), api.ErrArg},
		{"below 0", series1([]api.Sample{at(math.MinInt64, 1)}, "b", "1"), api.ErrArg},
		{"too late", series1([]api.Sample{at(1, 1), at(1<<50+1, 1)}, "b", "1"), api.ErrArg},
		{"too late", series1([]api.Sample{at(math.MaxInt64, 1)}, "b", "1"), api.ErrArg},
		{"the same time", series1([]api.Sample{at(1, 1), at(1, 1)}, "b", "1"), api.ErrOld},
		{"an older time", series1([]api.Sample{at(2, 1), at(1, 1)}, "b", "1"), api.ErrOld},
		{"an older time in the next chunk", series1(append(every(120), at(1200, 1)), "b", "1"), api.ErrOld},
		{"the first sample at fault", series1([]api.Sample{at(2, 1), at(1, 1), at(-1, 1)}, "b", "1"), api.ErrOld},
		{"the first sample at fault", series1([]api.Sample{at(2, 1), at(-1, 1), at(1, 1)}, "b", "1"), api.ErrArg},
		{"too long", huge, api.ErrSize},
		{"samples ahead of the size", series1(append(slices.Clone(huge.Samples), at(0, 0)), "b", "1"), api.ErrOld},
	} {
		for _, l := range [][]api.Series{{fine, c.s}, {fine, c.s, {}}, {fine, series1(every(3), "c", "1"), series1(every(3), "d", "1"), c.s, c.s}, {fine, c.s, series1(nil, "q", "q")}} {
			i := slices.IndexFunc(l, func(s api.Series) bool { return fmt.Sprint(s) == fmt.Sprint(c.s) })
			b, e, at := Build(l)
			if b != nil || e != c.want || at != i {
				t.Error(c.name, e, at, "not", c.want, i)
			}
			if _, e, at := modelBuild(l); e != c.want || at != i {
				t.Error("the model", c.name, e, at)
			}
		}
	}
	// The second of two, not the first.
	if _, e, i := Build([]api.Series{fine, series1(every(1), "b", "1"), fine, fine}); e != api.ErrTwice || i != 2 {
		t.Error(e, i)
	}
	// Two sets with no labels are one set.
	if _, e, i := Build([]api.Series{series1(every(1)), series1(every(1))}); e != api.ErrTwice || i != 1 {
		t.Error(e, i)
	}
}

func TestP10_1_Series(t *testing.T) {
	if x := opened(t, numbered(1000, "n")); x.Len() != 1000 || x.Samples() != 1000 {
		t.Error(x.Len(), x.Samples())
	}
	bad := numbered(1001, "n")
	bad[0].Samples = nil
	for _, l := range [][]api.Series{numbered(1001, "n"), make([]api.Series, 1001), bad, make([]api.Series, 5000)} {
		if b, e, i := Build(l); b != nil || e != api.ErrFull || i != 0 {
			t.Error(len(l), e, i)
		}
	}
	if _, e, i := Build(make([]api.Series, 1000)); e != api.ErrNone || i != 0 {
		t.Error(e, i)
	}
}

func TestP10_1_OneHash(t *testing.T) {
	l := []api.Series{series1(every(1), "a", "wMHBwUJL1Ab"), series1(every(2), "a", "6ME0uiKqjPh")}
	if labels.Hash(l[0].Labels) != labels.Hash(l[1].Labels) {
		t.Fatal("they have two")
	}
	if x := opened(t, l); !same(slices.Collect(x.All()), sorted(l)) {
		t.Error("they are one")
	}
	b, e := Merge(opened(t, l[:1]), opened(t, l[1:]))
	if e != api.OK || !bytes.Equal(b, mustBuild(t, l)) {
		t.Error("Merge", e)
	}
}

func TestP10_1_FrameSize(t *testing.T) {
	for _, size := range []int{65535, 65536} {
		s := long(t, "1", size)
		l := []api.Series{series1(every(1), "a", "1"), s}
		b := mustBuild(t, l)
		if !bytes.Equal(b, modelBytes(l)) || !same(slices.Collect(mustOpen(t, b).All()), sorted(l)) {
			t.Error(size)
		}
	}
	for _, size := range []int{65537, 65540, 66000} {
		if b, e, i := Build([]api.Series{series1(every(1), "a", "1"), long(t, "1", size), series1(nil, "c", "1")}); b != nil || e != api.ErrSize || i != 1 {
			t.Error(size, e, i)
		}
	}
}

// fileOf answers series whose block's bytes are just size, near 2^20.
func fileOf(t testing.TB, size int) []api.Series {
	t.Helper()
	one := long(t, "00", 65536)
	var l []api.Series
	for i := range 15 {
		s := api.Series{Labels: slices.Clone(one.Labels), Samples: one.Samples}
		s.Labels[15].Value = fmt.Sprintf("%02d", i)
		l = append(l, s)
	}
	frames := 15 * len(modelFrame(modelContent(one)))
	// The first frame has some bytes more than of none: of them the last series takes what is left.
	l = append(l, long(t, "zz", size-frames-30))
	left := size - len(modelBytes(l))
	l[15] = padded(t, "zz", l[15].Samples, len(modelContent(l[15]))+left)
	if n := len(modelBytes(l)); n != size {
		t.Fatal("not so many", n, size)
	}
	return l
}

func TestP10_1_FileSize(t *testing.T) {
	for _, size := range []int{1<<20 - 1, 1 << 20} {
		l := fileOf(t, size)
		b := mustBuild(t, l)
		if len(b) != size || !bytes.Equal(b, modelBytes(l)) || !same(slices.Collect(mustOpen(t, b).All()), sorted(l)) {
			t.Error(size, len(b))
		}
	}
	for _, size := range []int{1<<20 + 1, 1<<20 + 100} {
		l := fileOf(t, size)
		if b, e, i := Build(l); b != nil || e != api.ErrSize || i != 0 {
			t.Error(size, e, i)
		}
		if x, e := Open(modelBytes(l)); x != nil || e != api.ErrForm {
			t.Error("Open", size, e)
		}
		// A series at fault is told ahead of the whole.
		if b, e, i := Build(append(l, series1(nil, "a", "1"))); b != nil || e != api.ErrNone || i != 16 {
			t.Error(e, i)
		}
	}
}

func TestP10_2_Open(t *testing.T) {
	for _, c := range []struct {
		l             []api.Series
		first, last   int64
		series, count int
	}{
		{nil, 0, 0, 0, 0},
		{[]api.Series{series1(every(1), "a", "1")}, 10, 10, 1, 1},
		{[]api.Series{series1([]api.Sample{at(0, 1)}, "a", "1")}, 0, 0, 1, 1},
		{[]api.Series{series1([]api.Sample{at(1<<50, 1)}, "a", "1")}, 1 << 50, 1 << 50, 1, 1},
		{[]api.Series{series1([]api.Sample{at(7, 1), at(9, 1)}, "a", "1"), series1([]api.Sample{at(3, 1), at(4, 1)}, "a", "2"), series1([]api.Sample{at(5, 1), at(20, 1)}, "a", "0")}, 3, 20, 3, 6},
		{shop(), 0, 1 << 50, 10, 506},
	} {
		b := mustBuild(t, c.l)
		x := mustOpen(t, b)
		first, last := x.Span()
		if first != c.first || last != c.last || x.Len() != c.series || x.Samples() != c.count || !bytes.Equal(x.Bytes(), b) || x.Asked() != 0 {
			t.Error(first, last, x.Len(), x.Samples())
		}
	}
}

func TestP10_2_WrongBytes(t *testing.T) {
	join := func(l ...[]byte) []byte { return slices.Concat(l...) }
	magic := []byte("TOCBLK01")
	a, b := series1(every(121), "a", "1"), series1(every(1), "a", "2")
	first := modelFrame(modelFirst([]api.Series{a, b}))
	fa, fb := modelFrame(modelContent(a)), modelFrame(modelContent(b))
	if _, e := Open(join(magic, first, fa, fb)); e != api.OK {
		t.Fatal("the right one", e)
	}
	chunks := func(l ...[]api.Sample) []byte {
		c := join(modelLabels(of("a", "1")), u(len(l)))
		for _, s := range l {
			one := modelContent(api.Series{Samples: s})
			// Its content has no labels, one chunk: behind 00 01 stand length and bytes.
			if len(s) == 0 {
				one = []byte{0, 1, 2, 0, 0}
			}
			c = append(c, one[2:]...)
		}
		return c
	}
	// alone: a block of one series with that content, that tells of itself as if it had those samples.
	alone := func(content []byte, l []api.Sample) []byte {
		return join(magic, modelFrame(modelFirst([]api.Series{{Samples: l}})), modelFrame(content))
	}
	numbers := func(n ...int) []byte {
		var c []byte
		for _, one := range n {
			c = append(c, u(one)...)
		}
		return join(magic, modelFrame(c), fa, fb)
	}
	if _, e := Open(alone(chunks(every(121)[:120], every(121)[120:]), every(121))); e != api.OK {
		t.Fatal("the right one", e)
	}
	if _, e := Open(numbers(2, 122, 10, 1210)); e != api.OK {
		t.Fatal("the right one", e)
	}
	big := join(modelLabels(of("a", "1")), u(1), u(math.MaxInt), []byte{0, 1})
	for name, x := range map[string][]byte{
		"nil":                      nil,
		"the eight bytes alone":    magic,
		"another beginning":        join([]byte("TOCBLK02"), first, fa, fb),
		"no beginning":             join(first, fa, fb),
		"no first frame":           join(magic, fa, fb),
		"first frame twice":        join(magic, first, first, fa, fb),
		"in another order":         join(magic, first, fb, fa),
		"a series twice":           join(magic, first, fa, fa),
		"a series twice, told":     join(magic, modelFrame(modelFirst([]api.Series{a, a})), fa, fa),
		"a series less":            join(magic, first, fa),
		"a series more":            join(magic, modelFrame(modelFirst([]api.Series{a})), fa, fb),
		"a frame without bytes":    join(magic, first, fa, fb, modelFrame(nil)),
		"a byte more":              join(magic, first, fa, fb, []byte{0}),
		"fewer series":             numbers(1, 122, 10, 1210),
		"more series":              numbers(3, 122, 10, 1210),
		"fewer samples":            numbers(2, 121, 10, 1210),
		"more samples":             numbers(2, 123, 10, 1210),
		"another lowest time":      numbers(2, 122, 9, 1210),
		"another highest time":     numbers(2, 122, 10, 1211),
		"three numbers":            numbers(2, 122, 10),
		"five numbers":             numbers(2, 122, 10, 1210, 0),
		"no numbers":               numbers(),
		"numbers in more bytes":    join(magic, modelFrame([]byte{0x82, 0, 122, 10, 0xba, 9}), fa, fb),
		"none, with times":         join(magic, modelFrame([]byte{0, 0, 5, 5})),
		"none, but told one":       join(magic, modelFrame([]byte{1, 0, 0, 0})),
		"no chunks":                alone(chunks(), nil),
		"no chunks, told":          alone(chunks(), every(1)),
		"an empty chunk":           alone(chunks(nil), nil),
		"an empty chunk behind":    alone(chunks(every(5), nil), every(5)),
		"an empty chunk ahead":     alone(chunks(nil, every(5)), every(5)),
		"short chunks":             alone(chunks(every(10)[:5], every(10)[5:]), every(10)),
		"a short chunk ahead":      alone(chunks(every(121)[:119], every(121)[119:]), every(121)),
		"a long one":               alone(chunks(every(121)), every(121)),
		"chunks not rising":        alone(chunks(every(120), every(1)), append(every(120), every(1)...)),
		"one chunk twice":          alone(chunks(every(120), every(120)), append(every(120), every(120)...)),
		"too few chunks told":      alone(join(modelLabels(of("a", "1")), u(1), chunks(every(120), every(121)[120:])[6:]), every(121)),
		"too many chunks told":     alone(join(modelLabels(of("a", "1")), u(3), chunks(every(120), every(121)[120:])[6:]), every(121)),
		"a byte behind chunks":     alone(append(chunks(every(5)), 0), every(5)),
		"a chunk that is cut":      alone(chunks(every(5))[:20], every(5)),
		"a chunk without end":      alone(big, every(1)),
		"labels alone":             alone(modelLabels(of("a", "1")), nil),
		"labels not right":         alone(modelContent(series1(every(1), "a", "")), every(1)),
		"labels not rising":        alone(modelContent(series1(every(1), "b", "1", "a", "1")), every(1)),
		"labels cut":               alone(modelLabels(of("a", "1"))[:3], every(1)),
		"too many labels":          alone(join(u(17), bytes.Repeat([]byte{1, 'a', 1, 'b'}, 17)), every(1)),
		"count in more bytes":      alone(join(modelLabels(of("a", "1")), []byte{0x81, 0}, chunks(every(5))[6:]), every(5)),
		"length in more bytes":     alone(join(modelLabels(of("a", "1")), []byte{1, 0x80 | chunks(every(5))[6], 0}, chunks(every(5))[7:]), every(5)),
		"a frame's length in more": join(magic, []byte{0x80 | first[0], 0}, first[1:], fa, fb),
	} {
		if y, e := Open(x); y != nil || e != api.ErrForm {
			t.Errorf("%s: %v %d", name, y != nil, e)
		}
	}
	if y, e := Open(modelBytes(numbered(1001, "n"))); y != nil || e != api.ErrForm {
		t.Error("too many series", e)
	}
	if y, e := Open(modelBytes([]api.Series{long(t, "a", 65537)})); y != nil || e != api.ErrForm {
		t.Error("a frame that is too long", e)
	}
}

func TestNil(t *testing.T) {
	var x *Block
	first, last := x.Span()
	if len(x.Bytes()) != 0 || x.Len() != 0 || x.Samples() != 0 || first != 0 || last != 0 || x.Asked() != 0 || len(x.Names()) != 0 || len(x.Values("a")) != 0 || len(x.Postings("a", "")) != 0 || len(x.Postings("a", "1")) != 0 {
		t.Error("lists and numbers")
	}
	if l, e := x.Labels(0); l != nil || e != api.ErrNil {
		t.Error("Labels", l, e)
	}
	if l, e := x.Labels(-1); l != nil || e != api.ErrNil {
		t.Error("Labels", l, e)
	}
	if l, e := x.Series(0, 0, 9); l != nil || e != api.ErrNil {
		t.Error("Series", l, e)
	}
	if l, e := x.Select(nil); l != nil || e != api.ErrNil {
		t.Error("Select", l, e)
	}
	if l, e := x.Select(make([]api.Matcher, 17)); l != nil || e != api.ErrNil {
		t.Error("Select", l, e)
	}
	for s := range x.All() {
		t.Error("All", s)
	}
	if b, e := Trim(x, 5); b != nil || e != api.ErrNil {
		t.Error("Trim", b, e)
	}
	some := opened(t, shop())
	for _, l := range [][]*Block{{nil}, {nil, nil}, {some, nil}, {nil, some}, {some, nil, some}, {opened(t, numbered(600, "n")), opened(t, numbered(600, "m")), nil}} {
		if b, e := Merge(l...); b != nil || e != api.ErrNil {
			t.Error("Merge", e)
		}
	}
	if x.Asked() != 0 {
		t.Error("Asked")
	}
}

// A block that Open has not made has no series.
func TestZero(t *testing.T) {
	x := &Block{}
	first, last := x.Span()
	if len(x.Bytes()) != 0 || x.Len() != 0 || x.Samples() != 0 || first != 0 || last != 0 || len(x.Names()) != 0 || len(x.Values("a")) != 0 || len(x.Postings("a", "")) != 0 || len(x.Postings("a", "1")) != 0 || x.Asked() != 2 {
		t.Error("lists and numbers")
	}
	if _, e := x.Labels(0); e != api.ErrNone {
		t.Error(e)
	}
	if l, e := x.Select(nil); len(l) != 0 || e != api.OK {
		t.Error(l, e)
	}
	none := mustBuild(t, nil)
	if b, e := Merge(x, x); e != api.OK || !bytes.Equal(b, none) {
		t.Error(b, e)
	}
	if b, e := Trim(x, 0); e != api.OK || !bytes.Equal(b, none) {
		t.Error(b, e)
	}
	for s := range x.All() {
		t.Error(s)
	}
}

func TestP10_3_Names(t *testing.T) {
	x := opened(t, shop())
	if l := x.Names(); !slices.Equal(l, []string{"__name__", "a", "job", "x"}) {
		t.Error(l)
	}
	for name, want := range map[string][]string{"job": {"a", "ab", "b"}, "x": {"1", "é"}, "__name__": {"down", "up"}, "a": {"1"}, "nobody": nil, "": nil, "\xff": nil} {
		if l := x.Values(name); !slices.Equal(l, want) {
			t.Error(name, l)
		}
	}
	none := opened(t, nil)
	if len(none.Names()) != 0 || len(none.Values("a")) != 0 || len(none.Postings("a", "")) != 0 {
		t.Error("of none")
	}
	// Byte by byte, not sign by sign, nor by length.
	var l []api.Series
	for _, v := range []string{"é", "z", "Z", "aa", "a", "10", "9", "\x00", "\U0001F600", "\uFFFD", " "} {
		l = append(l, series1(every(1), "v", v))
	}
	if got := opened(t, l).Values("v"); !slices.Equal(got, []string{"\x00", " ", "10", "9", "Z", "a", "aa", "z", "é", "\uFFFD", "\U0001F600"}) {
		t.Errorf("%q", got)
	}
}

func TestP10_3_Postings(t *testing.T) {
	l := sorted(shop())
	x := opened(t, l)
	for _, name := range []string{"__name__", "a", "job", "x", "nobody", "", "\xff"} {
		for _, v := range []string{"", "a", "ab", "b", "1", "é", "up", "down", "nobody", "\xff"} {
			var want []int
			for i, s := range l {
				if labels.Get(s.Labels, name) == v {
					want = append(want, i)
				}
			}
			if got := x.Postings(name, v); !slices.Equal(got, want) {
				t.Error(name, v, got, want)
			}
		}
	}
}

func TestP10_3_Labels(t *testing.T) {
	l := sorted(shop())
	x := opened(t, l)
	for i, s := range l {
		if got, e := x.Labels(i); e != api.OK || !slices.Equal(got, s.Labels) {
			t.Error(i, got, e)
		}
	}
	for _, i := range []int{-1, len(l), len(l) + 1, math.MinInt, math.MaxInt} {
		if got, e := x.Labels(i); got != nil || e != api.ErrNone {
			t.Error(i, got, e)
		}
		if got, e := x.Series(i, 0, 1<<50); got != nil || e != api.ErrNone {
			t.Error(i, got, e)
		}
	}
	none := opened(t, nil)
	if got, e := none.Labels(0); got != nil || e != api.ErrNone {
		t.Error(got, e)
	}
	if got, e := none.Series(0, 0, 9); got != nil || e != api.ErrNone {
		t.Error(got, e)
	}
}

func TestP10_3_Series(t *testing.T) {
	l := sorted(shop())
	x := opened(t, l)
	ends := []int64{math.MinInt64, -1, 0, 1, 9, 10, 11, 20, 1199, 1200, 1201, 1205, 1210, 1211, 2399, 2400, 2401, 1 << 50, 1<<50 + 1, math.MaxInt64}
	for i, s := range l {
		for _, from := range ends {
			for _, to := range ends {
				var want []api.Sample
				for _, one := range s.Samples {
					if from <= one.T && one.T <= to {
						want = append(want, one)
					}
				}
				if got, e := x.Series(i, from, to); e != api.OK || !sameSamples(got, want) {
					t.Fatal(i, from, to, got, e, want)
				}
			}
		}
	}
}

func TestP10_3_Select(t *testing.T) {
	l := sorted(shop())
	x := opened(t, l)
	var ms []api.Matcher
	for _, name := range []string{"job", "x", "__name__", "nobody"} {
		for _, v := range []string{"", "a", "b", "a|b", ".*", ".+", "1", "é", "up"} {
			for op := api.MEq; op <= api.MNre; op++ {
				ms = append(ms, api.Matcher{Op: op, Name: name, Value: v})
			}
		}
	}
	check := func(list []api.Matcher) {
		t.Helper()
		var want []api.Series
		for _, s := range l {
			if ok, _ := match.All(list, s.Labels); ok {
				want = append(want, s)
			}
		}
		if got, e := x.Select(list); e != api.OK || !same(got, want) {
			t.Fatal(list, got, e, want)
		}
	}
	check(nil)
	check([]api.Matcher{})
	for i, a := range ms {
		check([]api.Matcher{a})
		for j := i % 5; j < len(ms); j += 5 {
			check([]api.Matcher{a, ms[j]})
		}
	}
	check(slices.Repeat([]api.Matcher{{Op: api.MEq, Name: "job", Value: "a"}}, 16))
}

func TestP10_3_SelectFaults(t *testing.T) {
	x := opened(t, shop())
	right := api.Matcher{Op: api.MEq, Name: "job", Value: "a"}
	for _, c := range []struct {
		m    api.Matcher
		want api.Errno
	}{
		{api.Matcher{}, api.ErrOp}, {api.Matcher{Op: 5, Name: "a"}, api.ErrOp}, {api.Matcher{Op: api.MEq}, api.ErrName}, {api.Matcher{Op: api.MEq, Name: "a", Value: "\xff"}, api.ErrUtf},
		{api.Matcher{Op: api.MNe, Name: "a", Value: strings.Repeat("a", 257)}, api.ErrSize}, {api.Matcher{Op: api.MRe, Name: "a", Value: "("}, api.ErrRegex}, {api.Matcher{Op: api.MNre, Name: "a", Value: strings.Repeat("(", 51)}, api.ErrDeep},
	} {
		for _, l := range [][]api.Matcher{{c.m}, {right, c.m}, {c.m, right}, {right, c.m, {Op: 9}}, {{Op: api.MEq, Name: "nobody", Value: "there"}, c.m}} {
			if got, e := x.Select(l); got != nil || e != c.want {
				t.Error(l, got, e)
			}
		}
	}
	for _, l := range [][]api.Matcher{slices.Repeat([]api.Matcher{right}, 17), make([]api.Matcher, 17)} {
		if got, e := x.Select(l); got != nil || e != api.ErrFull {
			t.Error(len(l), got, e)
		}
	}
}

func TestP10_3_All(t *testing.T) {
	l := sorted(shop())
	all := opened(t, l).All()
	for n := range len(l) + 2 {
		var some []api.Series
		for s := range all {
			if len(some) == n {
				break
			}
			some = append(some, s)
		}
		if !same(some, l[:min(n, len(l))]) {
			t.Error(n)
		}
	}
	if !same(slices.Collect(all), l) || !same(slices.Collect(all), l) {
		t.Error("gone through again")
	}
}

func TestP10_5_Asked(t *testing.T) {
	x := opened(t, shop())
	asked := func(want int64) {
		t.Helper()
		if x.Asked() != want {
			t.Error(x.Asked(), want)
		}
	}
	asked(0)
	x.Bytes()
	x.Len()
	x.Samples()
	x.Span()
	x.Names()
	x.Values("job")
	x.Labels(0)
	x.Labels(-1)
	for range x.All() {
	}
	Merge(x, x)
	Trim(x, 50)
	asked(0)
	x.Postings("job", "a")
	asked(1)
	x.Postings("job", "")
	asked(2)
	x.Postings("nobody", "a")
	asked(3)
	x.Series(0, 0, 100)
	asked(4)
	x.Series(-1, 0, 100) // Refused, and asked too.
	asked(5)
	x.Select(nil)
	asked(6)
	x.Select([]api.Matcher{{Op: api.MEq, Name: "job", Value: "a"}})
	asked(7)
	x.Select(make([]api.Matcher, 17))
	asked(8)
	y := mustOpen(t, x.Bytes())
	if y.Asked() != 0 {
		t.Error("another block", y.Asked())
	}
	asked(8)
}

func TestP10_5_ManyAtATime(t *testing.T) {
	l := sorted(shop())
	x := opened(t, l)
	want := x.Bytes()
	var all sync.WaitGroup
	for range 8 {
		all.Add(1)
		go func() {
			defer all.Done()
			for range 20 {
				if got, e := x.Select(nil); e != api.OK || !same(got, l) {
					t.Error("Select", e)
				}
				if len(x.Postings("job", "a")) != 3 || len(x.Postings("job", "")) != 4 {
					t.Error("Postings")
				}
				for i := range l {
					if got, e := x.Series(i, 0, 1<<50); e != api.OK || !sameSamples(got, l[i].Samples) {
						t.Error("Series", e)
					}
					if set, e := x.Labels(i); e != api.OK || !slices.Equal(set, l[i].Labels) {
						t.Error("Labels", e)
					}
				}
				if !same(slices.Collect(x.All()), l) || !bytes.Equal(x.Bytes(), want) || len(x.Names()) != 4 || len(x.Values("job")) != 3 || x.Len() != 10 || x.Samples() != 506 {
					t.Error("the others")
				}
				if b, e := Merge(x, x); e != api.OK || !bytes.Equal(b, want) {
					t.Error("Merge", e)
				}
				if b, e := Trim(x, 0); e != api.OK || !bytes.Equal(b, want) {
					t.Error("Trim", e)
				}
				x.Asked()
			}
		}()
	}
	all.Wait()
	if n := x.Asked(); n != 8*20*(1+2+10) {
		t.Error(n)
	}
}

func TestP10_6_AsItWasWritten(t *testing.T) {
	r := rand.New(rand.NewSource(6))
	floats := []float64{0, minusZero, 1, stale, theNaN, otherNaN, math.Inf(1), math.Inf(-1), math.MaxFloat64, math.SmallestNonzeroFloat64}
	for range 150 {
		var l []api.Series
		for i := range r.Intn(12) {
			s := api.Series{}
			for j := range r.Intn(4) {
				s.Labels = append(s.Labels, api.Label{Name: fmt.Sprint("l", j), Value: fmt.Sprint(r.Intn(3))})
			}
			s.Labels = append(s.Labels, api.Label{Name: "z", Value: fmt.Sprint(i)})
			now := r.Int63n(1 << 40)
			for range 1 + r.Intn(1+r.Intn(400)) {
				v := floats[r.Intn(len(floats))]
				if r.Intn(2) == 0 {
					v = math.Float64frombits(r.Uint64())
				}
				s.Samples = append(s.Samples, at(now, v))
				now += 1 + r.Int63n(1<<r.Intn(36))
			}
			l = append(l, s)
		}
		r.Shuffle(len(l), func(i, j int) { l[i], l[j] = l[j], l[i] })
		b := mustBuild(t, l)
		if !bytes.Equal(b, modelBytes(l)) {
			t.Fatal("the model's bytes are others")
		}
		x := mustOpen(t, b)
		if !same(slices.Collect(x.All()), sorted(l)) || !bytes.Equal(x.Bytes(), b) {
			t.Fatal("it is not as it was written")
		}
		if some, e := x.Select(nil); e != api.OK || !same(some, sorted(l)) {
			t.Fatal("Select", e)
		}
	}
}

func TestP10_7_Turned(t *testing.T) {
	for _, l := range [][]api.Series{nil, {series1(every(1), "a", "1")}, {series1(every(3)), series1(every(121), "a", "1", "b", "é"), series1(every(2), "b", "1")}} {
		b := mustBuild(t, l)
		for i := range b {
			for bit := range 8 {
				c := slices.Clone(b)
				c[i] ^= 1 << bit
				if x, e := Open(c); x != nil || e != api.ErrForm {
					t.Fatal("turned", i, bit, e)
				}
			}
		}
		for n := range b {
			if x, e := Open(b[:n]); x != nil || e != api.ErrForm {
				t.Fatal("cut", n, e)
			}
		}
		for x := range 256 {
			if y, e := Open(append(slices.Clone(b), byte(x))); y != nil || e != api.ErrForm {
				t.Fatal("a byte more", x, e)
			}
		}
	}
}

// A turned bit beneath a right sum: what is taken is what Build writes.
func TestP10_7_RightSums(t *testing.T) {
	l := []api.Series{series1(every(3)), series1(every(121), "a", "1"), series1(every(2), "b", "1")}
	parts := [][]byte{modelFirst(l)}
	for _, s := range l {
		parts = append(parts, modelContent(s))
	}
	taken := 0
	for i, p := range parts {
		for place := range p {
			for bit := range 8 {
				b := []byte("TOCBLK01")
				for j, q := range parts {
					q = slices.Clone(q)
					if i == j {
						q[place] ^= 1 << bit
					}
					b = append(b, modelFrame(q)...)
				}
				x, e := Open(b)
				if e != api.OK {
					if x != nil || e != api.ErrForm {
						t.Fatal(i, place, bit, e)
					}
					continue
				}
				taken++
				if again, e, _ := modelBuild(slices.Collect(x.All())); e != api.OK || !bytes.Equal(again, b) {
					t.Fatal(i, place, bit, "it is not what Build writes")
				}
			}
		}
	}
	// Values' bits may be turned, and be another block.
	if taken == 0 {
		t.Error("none was taken")
	}
}

func TestP10_8_Postings(t *testing.T) {
	r := rand.New(rand.NewSource(8))
	for range 30 {
		var l []api.Series
		for i := range 1 + r.Intn(50) {
			s := series1(every(1))
			for _, name := range []string{"a", "b", "c"} {
				if r.Intn(2) == 0 {
					s.Labels = append(s.Labels, api.Label{Name: name, Value: fmt.Sprint(r.Intn(4))})
				}
			}
			s.Labels = append(s.Labels, api.Label{Name: "n", Value: fmt.Sprint(i)})
			l = append(l, s)
		}
		x := opened(t, l)
		for _, name := range append(x.Names(), "nobody") {
			var all []int
			for _, v := range append(x.Values(name), "") {
				some := x.Postings(name, v)
				if !slices.IsSorted(some) {
					t.Error("not rising", some)
				}
				if v != "" && len(some) == 0 {
					t.Error("a value that nobody has", name, v)
				}
				all = append(all, some...)
			}
			slices.Sort(all)
			for i := range max(len(all), x.Len()) {
				if i >= len(all) || all[i] != i {
					t.Fatal(name, all)
				}
			}
		}
	}
}

// What is handed in is neither changed nor kept, what is answered nobody else sees.
func TestMemory(t *testing.T) {
	l := shop()
	b := mustBuild(t, l)
	if fmt.Sprint(l) != fmt.Sprint(shop()) {
		t.Error("Build changes its list")
	}
	want := slices.Clone(b)
	x := mustOpen(t, b)
	if !bytes.Equal(b, want) {
		t.Error("Open changes its bytes")
	}
	for i := range b {
		b[i] = 0
	}
	for _, s := range l {
		clear(s.Labels)
		clear(s.Samples)
	}
	state := func() string {
		first, last := x.Span()
		return fmt.Sprint(x.Bytes(), x.Len(), x.Samples(), first, last, x.Names(), x.Values("job"), x.Postings("job", "a"), x.Postings("job", ""), slices.Collect(x.All()))
	}
	was := state()
	if !same(slices.Collect(x.All()), sorted(shop())) || !bytes.Equal(x.Bytes(), want) {
		t.Error("the bytes are kept")
	}
	spoil := func(s api.Series) {
		clear(s.Labels)
		clear(s.Samples)
		_ = append(s.Labels, of("y", "y")...)
		_ = append(s.Samples, at(-8, 8))
	}
	for s := range x.All() {
		spoil(s)
	}
	some, _ := x.Select(nil)
	for _, s := range some {
		spoil(s)
	}
	for i := range x.Len() {
		set, _ := x.Labels(i)
		samples, _ := x.Series(i, 0, 1<<50)
		spoil(api.Series{Labels: set, Samples: samples})
	}
	for _, p := range [][]int{x.Postings("job", "a"), x.Postings("job", ""), x.Postings("nobody", "")} {
		clear(p)
		_ = append(p, 99)
	}
	for _, p := range [][]string{x.Names(), x.Values("job")} {
		clear(p)
		_ = append(p, "spoilt")
	}
	clear(x.Bytes())
	_ = append(x.Bytes(), 7)
	for _, p := range [][]byte{must(Merge(x)), must(Trim(x, 0)), must(Merge(x, x))} {
		clear(p)
	}
	if state() != was {
		t.Error("what is written into an answer is seen")
	}
	ms := []api.Matcher{{Op: api.MEq, Name: "job", Value: "a"}, {Op: api.MRe, Name: "x", Value: ".*"}}
	keep := slices.Clone(ms)
	x.Select(ms)
	if !slices.Equal(ms, keep) {
		t.Error("Select changes its matchers")
	}
	blocks := []*Block{x, opened(t, nil), x}
	again := slices.Clone(blocks)
	Merge(blocks...)
	if !slices.Equal(blocks, again) || state() != was {
		t.Error("Merge changes its list")
	}
}

func must(b []byte, e api.Errno) []byte {
	if e != api.OK {
		panic(e)
	}
	return b
}

func FuzzBlock(f *testing.F) {
	for _, l := range [][]api.Series{nil, shop(), {series1(every(121), "a", "1")}, {series1(every(2)), series1(every(3), "b", "1")}} {
		b := mustBuild(f, l)
		f.Add(b[8:])
		// As contents alone, too: of each frame but its length and sum.
		f.Add(append(modelFirst(l), 0xff))
	}
	f.Fuzz(func(t *testing.T, b []byte) {
		for _, c := range [][]byte{b, slices.Concat([]byte("TOCBLK01"), b), framed(b)} {
			x, e := Open(c)
			if e != api.OK {
				if x != nil || e != api.ErrForm {
					t.Fatal(e)
				}
				continue
			}
			l := slices.Collect(x.All())
			if again, e, _ := modelBuild(l); e != api.OK || !bytes.Equal(again, c) {
				t.Fatalf("%x is not %x", again, c)
			}
		}
	})
}

// framed answers the bytes of a block whose frames' contents are those pieces of b that a byte ff parts; the first frame is made of nothing but the first.
func framed(b []byte) []byte {
	out := []byte("TOCBLK01")
	for _, p := range bytes.Split(b, []byte{0xff}) {
		out = append(out, modelFrame(p)...)
	}
	return out
}
