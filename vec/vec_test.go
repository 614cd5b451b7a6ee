package vec

import (
	"fmt"
	"math"
	"math/rand"
	"slices"
	"strings"
	"testing"

	"tocsin/api"
	"tocsin/labels"
)

// of: labels of names and values in turn.
func of(texts ...string) []api.Label {
	var l []api.Label
	for i := 0; i+1 < len(texts); i += 2 {
		l = append(l, api.Label{Name: texts[i], Value: texts[i+1]})
	}
	return l
}

// numbered answers n points of the label name, and behind it, falling by label set.
func numbered(n int, name string) []api.Point {
	var l []api.Point
	for i := range n {
		l = append(l, api.Point{Labels: of(name, fmt.Sprintf("%05d", n-i)), V: float64(i)})
	}
	return l
}

// many answers n labels, rising.
func many(n int, first string) []api.Label {
	var l []api.Label
	for i := range n {
		l = append(l, api.Label{Name: fmt.Sprintf("%s%03d", first, i), Value: "v"})
	}
	return l
}

func wrongSets() [][]api.Label {
	return [][]api.Label{
		of("a", ""), of("", "1"), of("1", "1"), of("a:b", "1"), of("é", "1"), of("a", "\xff"), of("a", strings.Repeat("x", 257)), of(strings.Repeat("x", 65), "1"),
		of("b", "1", "a", "1"), of("a", "1", "a", "1"), of("a", "1", "a", "2"), of("a", "1", "b", ""), many(17, "l"),
	}
}

func TestExamples(t *testing.T) {
	l, r := pts(`{a="1"} 2`), pts(`{a="1",b="x"} 3`)
	for _, m := range []api.Match{{On: true, Labels: []string{"a"}}, {Labels: []string{"b"}}} {
		got, e := Binary(api.OAdd, l, r, m, false)
		check(t, "+", got, e, pts(`{a="1"} 5`), api.OK)
	}
	m := pts(`m 2`)
	got, e := Right(api.OGt, m, 1, false)
	check(t, ">", got, e, m, api.OK)
	got, e = Right(api.OGt, m, 1, true)
	check(t, "> bool", got, e, pts(`{} 1`), api.OK)
	for _, x := range []struct {
		op         int
		a, b, want float64
	}{{api.OMod, 7, 0, nan}, {api.OMod, -7, 3, -1}, {api.OPow, 2, -1, 0.5}, {api.OPow, 2, 0.5, nan}} {
		if v, e := Arith(x.op, x.a, x.b); !same(v, x.want) || e != api.OK {
			t.Error(x, v, e)
		}
	}
}

func TestP15_1_Vector(t *testing.T) {
	for _, l := range [][]api.Point{nil, {}} {
		if got, e := Vector(l); len(got) != 0 || e != api.OK {
			t.Error("of none", got, e)
		}
	}
	for _, x := range []struct{ l, want []api.Point }{
		{[]api.Point{{V: 3}}, pts(`{} 3`)},
		{[]api.Point{{Labels: []api.Label{}, V: stale}}, []api.Point{{V: stale}}},
		{pts(`{b="1"} 1`, `{a="2"} 2`, `{} 3`, `{a="1"} 4`, `{a="1",b="0"} 5`, `m 6`, `m{a="1"} 7`, `{B="1"} 8`), pts(`{} 3`, `{B="1"} 8`, `m 6`, `m{a="1"} 7`, `{a="1"} 4`, `{a="1",b="0"} 5`, `{a="2"} 2`, `{b="1"} 1`)},
		{pts(`{a="10"} 1`, `{a="9"} 2`, `{a="1"} 3`), pts(`{a="1"} 3`, `{a="10"} 1`, `{a="9"} 2`)},
		{pts(`{a="1"} 0`, `{a="1",b="1"} -0`), pts(`{a="1"} 0`, `{a="1",b="1"} -0`)},
		{[]api.Point{{Labels: many(16, "l"), V: otherNaN}}, []api.Point{{Labels: many(16, "l"), V: otherNaN}}},
		{[]api.Point{{Labels: of(strings.Repeat("x", 64), strings.Repeat("v", 256)), V: 1}}, []api.Point{{Labels: of(strings.Repeat("x", 64), strings.Repeat("v", 256)), V: 1}}},
	} {
		got, e := Vector(x.l)
		check(t, show(x.l), got, e, x.want, api.OK)
	}
}

func TestP15_1_VectorsFaults(t *testing.T) {
	full := numbered(1000, "a")
	want := clone(full)
	slices.Reverse(want)
	got, e := Vector(full)
	check(t, "of MaxPoints", got, e, want, api.OK)
	got, e = Vector(numbered(1001, "a"))
	check(t, "of one more", got, e, nil, api.ErrLarge)
	for _, set := range wrongSets() {
		for _, l := range [][]api.Point{{{Labels: set}}, append(pts(`{a="1"} 1`), api.Point{Labels: set}), append([]api.Point{{Labels: set}}, pts(`{a="1"} 1`)...)} {
			got, e := Vector(l)
			check(t, show(l), got, e, nil, api.ErrLabel)
			// Ahead of two with one, behind too many.
			got, e = Vector(append(append(pts(`{a="1"} 1`, `{a="1"} 2`), l...), l...))
			check(t, "with two "+show(l), got, e, nil, api.ErrLabel)
			got, e = Vector(append(numbered(1000, "b"), l...))
			check(t, "with too many "+show(l), got, e, nil, api.ErrLarge)
		}
	}
	for _, l := range [][]api.Point{
		pts(`{a="1"} 1`, `{a="1"} 1`), pts(`{a="1"} 1`, `{a="1"} 2`), {{}, {Labels: []api.Label{}}}, pts(`{a="1"} 1`, `{b="1"} 1`, `{} 1`, `{a="1"} 2`), pts(`m 1`, `m{a="1"} 1`, `m 2`),
		append(numbered(999, "a"), numbered(1, "a")...),
	} {
		_, want := modelVector(l)
		got, e := Vector(l)
		check(t, show(l), got, e, nil, api.ErrMany)
		if want != api.ErrMany {
			t.Error("the model", want)
		}
	}
	got, e = Vector(make([]api.Point, 1001))
	check(t, "too many alike", got, e, nil, api.ErrLarge)
}

func TestP15_1_Same(t *testing.T) {
	base := pts(`{a="1"} 1`, `m{a="1",b="2"} 2`, `{} NaN`)
	if !Same(base, clone(base)) || !Same(nil, nil) || !Same(nil, []api.Point{}) || !Same([]api.Point{{V: 1}}, []api.Point{{Labels: []api.Label{}, V: 1}}) {
		t.Error("not the same")
	}
	for i := range base {
		other := clone(base)
		other[i].V = math.Nextafter(other[i].V, 9)
		if math.IsNaN(other[i].V) {
			other[i].V = stale
		}
		if Same(base, other) || Same(other, base) {
			t.Error("another value", i)
		}
		other = clone(base)
		other[i].Labels = append(other[i].Labels, api.Label{Name: "z", Value: "1"})
		if Same(base, other) || Same(other, base) {
			t.Error("one label more", i)
		}
		for j := range base[i].Labels {
			for _, x := range []api.Label{{Name: base[i].Labels[j].Name, Value: "x"}, {Name: "x", Value: base[i].Labels[j].Value}} {
				other = clone(base)
				other[i].Labels[j] = x
				if Same(base, other) || Same(other, base) {
					t.Error("another label", i, j)
				}
			}
		}
	}
	for _, x := range [][2][]api.Point{
		{base, base[:2]}, {base, base[1:]}, {base, nil}, {base, append(clone(base), base[0])}, {pts(`{} 0`), pts(`{} -0`)}, {pts(`{} NaN`), {{V: otherNaN}}}, {pts(`{a="1"} 1`, `{b="1"} 1`), pts(`{b="1"} 1`, `{a="1"} 1`)},
	} {
		if Same(x[0], x[1]) || Same(x[1], x[0]) {
			t.Error("the same", show(x[0]), show(x[1]))
		}
	}
	// Any lists: also of what is no right label set.
	for _, set := range wrongSets() {
		l := []api.Point{{Labels: set, V: stale}, {Labels: set, V: stale}}
		if !Same(l, clone(l)) || Same(l, l[:1]) {
			t.Error(show(l))
		}
	}
}

func TestP15_2_Each(t *testing.T) {
	l := pts(`{a="1"} 1`, `m{a="2"} 2`, `m{a="3"} 3`, `{} NaN`)
	for _, x := range []struct {
		op          int
		flag        bool
		left, right []api.Point // 2 op l, l op 2
	}{
		{api.OAdd, false, pts(`{} NaN`, `{a="1"} 3`, `{a="2"} 4`, `{a="3"} 5`), pts(`{} NaN`, `{a="1"} 3`, `{a="2"} 4`, `{a="3"} 5`)},
		{api.OSub, true, pts(`{} NaN`, `{a="1"} 1`, `{a="2"} 0`, `{a="3"} -1`), pts(`{} NaN`, `{a="1"} -1`, `{a="2"} 0`, `{a="3"} 1`)},
		{api.OMul, true, pts(`{} NaN`, `{a="1"} 2`, `{a="2"} 4`, `{a="3"} 6`), pts(`{} NaN`, `{a="1"} 2`, `{a="2"} 4`, `{a="3"} 6`)},
		{api.ODiv, false, pts(`{} NaN`, `{a="1"} 2`, `{a="2"} 1`, `{a="3"} 0.6666666666666666`), pts(`{} NaN`, `{a="1"} 0.5`, `{a="2"} 1`, `{a="3"} 1.5`)},
		{api.OMod, false, pts(`{} NaN`, `{a="1"} 0`, `{a="2"} 0`, `{a="3"} 2`), pts(`{} NaN`, `{a="1"} 1`, `{a="2"} 0`, `{a="3"} 1`)},
		{api.OPow, false, pts(`{} NaN`, `{a="1"} 2`, `{a="2"} 4`, `{a="3"} 8`), pts(`{} NaN`, `{a="1"} 1`, `{a="2"} 4`, `{a="3"} 9`)},
		{api.OEq, false, pts(`m{a="2"} 2`), pts(`m{a="2"} 2`)},
		{api.OEq, true, pts(`{} 0`, `{a="1"} 0`, `{a="2"} 1`, `{a="3"} 0`), pts(`{} 0`, `{a="1"} 0`, `{a="2"} 1`, `{a="3"} 0`)},
		{api.ONe, false, pts(`{} NaN`, `m{a="3"} 3`, `{a="1"} 1`), pts(`{} NaN`, `m{a="3"} 3`, `{a="1"} 1`)},
		{api.ONe, true, pts(`{} 1`, `{a="1"} 1`, `{a="2"} 0`, `{a="3"} 1`), pts(`{} 1`, `{a="1"} 1`, `{a="2"} 0`, `{a="3"} 1`)},
		{api.OGt, false, pts(`{a="1"} 1`), pts(`m{a="3"} 3`)},
		{api.OGt, true, pts(`{} 0`, `{a="1"} 1`, `{a="2"} 0`, `{a="3"} 0`), pts(`{} 0`, `{a="1"} 0`, `{a="2"} 0`, `{a="3"} 1`)},
		{api.OLt, false, pts(`m{a="3"} 3`), pts(`{a="1"} 1`)},
		{api.OLt, true, pts(`{} 0`, `{a="1"} 0`, `{a="2"} 0`, `{a="3"} 1`), pts(`{} 0`, `{a="1"} 1`, `{a="2"} 0`, `{a="3"} 0`)},
		{api.OGe, false, pts(`m{a="2"} 2`, `{a="1"} 1`), pts(`m{a="2"} 2`, `m{a="3"} 3`)},
		{api.OGe, true, pts(`{} 0`, `{a="1"} 1`, `{a="2"} 1`, `{a="3"} 0`), pts(`{} 0`, `{a="1"} 0`, `{a="2"} 1`, `{a="3"} 1`)},
		{api.OLe, false, pts(`m{a="2"} 2`, `m{a="3"} 3`), pts(`m{a="2"} 2`, `{a="1"} 1`)},
		{api.OLe, true, pts(`{} 0`, `{a="1"} 0`, `{a="2"} 1`, `{a="3"} 1`), pts(`{} 0`, `{a="1"} 1`, `{a="2"} 1`, `{a="3"} 0`)},
	} {
		got, e := Left(x.op, 2, l, x.flag)
		check(t, fmt.Sprint("Left ", x.op, x.flag), got, e, x.left, api.OK)
		got, e = Right(x.op, l, 2, x.flag)
		check(t, fmt.Sprint("Right ", x.op, x.flag), got, e, x.right, api.OK)
	}
	// What is told as it is keeps its bits.
	odd := []api.Point{{Labels: of("__name__", "m"), V: stale}, {Labels: of("a", "1"), V: otherNaN}, {Labels: of("b", "1"), V: minusZero}}
	got, e := Left(api.ONe, 1, odd, false)
	check(t, "Left !=", got, e, odd, api.OK)
	got, e = Right(api.ONe, odd, 1, false)
	check(t, "Right !=", got, e, odd, api.OK)
	got, e = Right(api.OEq, odd, 0, false)
	check(t, "Right ==", got, e, odd[2:], api.OK)
}

// Two points whose labels are one without the metric's name.
func TestP15_2_TwoThatComeToOne(t *testing.T) {
	for _, l := range [][]api.Point{pts(`m{a="1"} 1`, `n{a="1"} 2`), pts(`m{a="1"} 1`, `{a="1"} 2`), pts(`m 1`, `{} 2`), pts(`{a="2"} 5`, `n 1`, `m 2`)} {
		for _, op := range ops[:12] {
			for _, flag := range []bool{false, true} {
				want := api.ErrMany
				if op > api.OPow && !flag {
					want = api.OK
				}
				if got, e := Left(op, 1, l, flag); e != want || e != api.OK && got != nil {
					t.Error("Left", op, flag, show(got), e)
				}
				if got, e := Right(op, l, 1, flag); e != want || e != api.OK && got != nil {
					t.Error("Right", op, flag, show(got), e)
				}
				checkEach(t, op, 1, l, flag)
			}
		}
		got, e := Neg(l)
		check(t, "Neg", got, e, nil, api.ErrMany)
	}
}

func TestP15_2_Faults(t *testing.T) {
	faults := map[api.Errno][]api.Point{
		api.ErrLarge: numbered(1001, "a"), api.ErrLabel: {{Labels: of("a", "")}}, api.ErrMany: pts(`{a="1"} 1`, `{a="1"} 1`), api.OK: pts(`{a="1"} 1`),
	}
	for want, l := range faults {
		for _, op := range append(wrongOps, ops...) {
			for _, flag := range []bool{false, true} {
				e := want
				if op < api.OAdd || op > api.OLe {
					e = api.ErrOp
				}
				if got, ge := Left(op, 1, l, flag); ge != e || e != api.OK && got != nil {
					t.Error("Left", op, flag, show(got), ge, e)
				}
				if got, ge := Right(op, l, 1, flag); ge != e || e != api.OK && got != nil {
					t.Error("Right", op, flag, show(got), ge, e)
				}
			}
		}
		if got, ge := Neg(l); ge != want || want != api.OK && got != nil {
			t.Error("Neg", show(got), ge, want)
		}
	}
	// All of MaxPoints come through, and none.
	full := numbered(1000, "a")
	if got, e := Right(api.OAdd, full, 1, false); e != api.OK || len(got) != 1000 || got[0].V != 1000 {
		t.Error("full", len(got), e)
	}
	for _, op := range ops[:12] {
		for _, l := range [][]api.Point{nil, {}} {
			checkEach(t, op, 1, l, true)
			checkEach(t, op, nan, l, false)
		}
	}
}

func TestP15_2_Neg(t *testing.T) {
	l := []api.Point{{V: 0}, {Labels: of("__name__", "m", "a", "1"), V: minusZero}, {Labels: of("b", "1"), V: nan}, {Labels: of("b", "2"), V: stale}, {Labels: of("b", "3"), V: otherNaN}, {Labels: of("c", "1"), V: inf}, {Labels: of("c", "2"), V: -inf}, {Labels: of("__name__", "n", "d", "1"), V: 5e-324}, {Labels: of("d", "2"), V: -7}}
	want := []api.Point{{V: minusZero}, {Labels: of("a", "1"), V: 0}, {Labels: of("b", "1"), V: nan}, {Labels: of("b", "2"), V: nan}, {Labels: of("b", "3"), V: nan}, {Labels: of("c", "1"), V: -inf}, {Labels: of("c", "2"), V: inf}, {Labels: of("d", "1"), V: -5e-324}, {Labels: of("d", "2"), V: 7}}
	got, e := Neg(l)
	check(t, "Neg", got, e, want, api.OK)
	for _, l := range [][]api.Point{nil, {}} {
		if got, e := Neg(l); len(got) != 0 || e != api.OK {
			t.Error("of none", got, e)
		}
	}
}

// What the model says of all operators, values and flags.
func TestP15_2_AnyPoints(t *testing.T) {
	r := rand.New(rand.NewSource(2))
	for range 4000 {
		l := somePoints(r)
		checkVector(t, l)
		op := 1 + r.Intn(12)
		if r.Intn(30) == 0 {
			op = r.Intn(20) - 2
		}
		for _, x := range []float64{someValues[r.Intn(len(someValues))], float64(r.Intn(3))} {
			checkEach(t, op, x, l, r.Intn(2) == 0)
		}
	}
}

func TestP15_8_NegOfNeg(t *testing.T) {
	r := rand.New(rand.NewSource(8))
	some := 0
	for range 2000 {
		l := somePoints(r)
		once, e := Neg(l)
		if e != api.OK {
			continue
		}
		twice, e := Neg(once)
		var want []api.Point
		for _, p := range l {
			set, _ := labels.Without(p.Labels, "__name__")
			want = append(want, api.Point{Labels: set, V: modelNaN(p.V)})
		}
		want, _ = modelVector(want)
		check(t, show(l), twice, e, want, api.OK)
		some += len(l)
	}
	if some < 1000 {
		t.Error("few points", some)
	}
}

// No list that is handed in is changed or kept, and what is answered is new memory.
func TestRules_Memory(t *testing.T) {
	l := pts(`{c="1"} 3`, `m{a="2"} 2`, `{a="1"} 1`)
	r := pts(`{c="1"} 3`, `{a="2"} 5`, `{b="1"} 7`)
	include := api.Match{Card: api.ManyToOne, Labels: []string{"c", "b"}, Include: []string{"b"}}
	set := api.Match{Card: api.ManyToMany, Labels: []string{"b", "a"}}
	for i, call := range []func(l, r []api.Point, m1, m2 api.Match) ([]api.Point, api.Errno){
		func(l, r []api.Point, m1, m2 api.Match) ([]api.Point, api.Errno) { return Vector(l) },
		func(l, r []api.Point, m1, m2 api.Match) ([]api.Point, api.Errno) { return Neg(l) },
		func(l, r []api.Point, m1, m2 api.Match) ([]api.Point, api.Errno) {
			return Left(api.OSub, 1, l, false)
		},
		func(l, r []api.Point, m1, m2 api.Match) ([]api.Point, api.Errno) {
			return Left(api.OLe, 1, l, false)
		},
		func(l, r []api.Point, m1, m2 api.Match) ([]api.Point, api.Errno) {
			return Right(api.OGe, l, 1, false)
		},
		func(l, r []api.Point, m1, m2 api.Match) ([]api.Point, api.Errno) {
			return Right(api.OGe, l, 2, true)
		},
		func(l, r []api.Point, m1, m2 api.Match) ([]api.Point, api.Errno) {
			return Binary(api.OAdd, l, r, m1, false)
		},
		func(l, r []api.Point, m1, m2 api.Match) ([]api.Point, api.Errno) {
			return Binary(api.OLe, l, r, m1, false)
		},
		func(l, r []api.Point, m1, m2 api.Match) ([]api.Point, api.Errno) {
			return Binary(api.OLe, l, r, api.Match{}, false)
		},
		func(l, r []api.Point, m1, m2 api.Match) ([]api.Point, api.Errno) {
			return Binary(api.OAnd, l, r, m2, false)
		},
		func(l, r []api.Point, m1, m2 api.Match) ([]api.Point, api.Errno) {
			return Binary(api.OOr, l, r, m2, true)
		},
		func(l, r []api.Point, m1, m2 api.Match) ([]api.Point, api.Errno) {
			return Binary(api.OUnless, l, r, m2, false)
		},
		// Refused ones.
		func(l, r []api.Point, m1, m2 api.Match) ([]api.Point, api.Errno) {
			return Vector(append(l, l...))
		},
		func(l, r []api.Point, m1, m2 api.Match) ([]api.Point, api.Errno) {
			return Binary(api.OAdd, l, append(r, r...), m1, false)
		},
		func(l, r []api.Point, m1, m2 api.Match) ([]api.Point, api.Errno) {
			return Binary(api.OAdd, l, r, api.Match{On: true}, false)
		},
	} {
		x, y, m1, m2 := clone(l), clone(r), include, set
		// Room behind each list, into which an append would write.
		room := func(s []string) []string { return append(make([]string, 0, 9), s...) }
		m1.Labels, m1.Include, m2.Labels = room(m1.Labels), room(m1.Include), room(m2.Labels)
		for j := range x {
			x[j].Labels = append(make([]api.Label, 0, 9), x[j].Labels...)
		}
		x = append(make([]api.Point, 0, 9), x...)
		got, e := call(x, y, m1, m2)
		want := clone(got)
		if !sameList(x, l) || !sameList(y, r) || !slices.Equal(m1.Labels, include.Labels) || !slices.Equal(m1.Include, include.Include) || !slices.Equal(m2.Labels, set.Labels) {
			t.Error(i, "a list is changed")
		}
		if m1.Labels[:9][2] != "" || m1.Include[:9][1] != "" || m2.Labels[:9][2] != "" || x[0].Labels[:9][1] != (api.Label{}) {
			t.Error(i, "written behind a list")
		}
		spoil(x)
		spoil(y)
		clear(m1.Labels)
		clear(m2.Labels)
		if !sameList(got, want) {
			t.Error(i, "shares memory with what was handed in")
		}
		// Lists of one answer share none.
		for j := range got {
			for k := range got[j].Labels {
				got[j].Labels[k].Name = "!"
			}
			_ = append(got[j].Labels, api.Label{Name: "!"})
			for k := range got {
				if k > j && !sameList(got[k:k+1], want[k:k+1]) {
					t.Error(i, "two lists share memory")
				}
			}
		}
		spoil(got)
		again, e2 := call(clone(l), clone(r), include, set)
		if !sameList(again, want) || e != e2 {
			t.Error(i, "another answer", show(again), e2)
		}
	}
}

func FuzzVec(f *testing.F) {
	f.Add(int64(1), 1, 2.0, false)
	f.Add(int64(2), 12, -0.0, true)
	f.Add(int64(3), 14, 1.0, true)
	f.Fuzz(func(t *testing.T, seed int64, op int, x float64, flag bool) {
		r := rand.New(rand.NewSource(seed))
		a, b := somePoints(r), somePoints(r)
		checkVector(t, a)
		checkEach(t, op, x, a, flag)
		checkBinary(t, op, a, b, someMatch(r, op), flag)
	})
}
