package vec

import (
	"fmt"
	"math/rand"
	"slices"
	"strings"
	"testing"

	"tocsin/api"
)

func on(names ...string) api.Match       { return api.Match{On: true, Labels: names} }
func ignoring(names ...string) api.Match { return api.Match{Labels: names} }

// card answers m with another Card and Include.
func card(m api.Match, c int, include ...string) api.Match {
	m.Card, m.Include = c, include
	return m
}

func TestP15_3_OneToOne(t *testing.T) {
	l := pts(`m{a="1",b="x"} 1`, `m{a="2",b="x"} 2`, `m{a="3",b="x"} 3`, `m{a="4",b="x"} 9`)
	r := pts(`n{a="1",b="x"} 2`, `n{a="2",b="x"} 2`, `n{a="3",b="x"} 2`, `n{a="5",b="x"} 9`)
	for _, x := range []struct {
		op     int
		values string // of a 1, 2, 3
		flags  string
	}{
		{api.OAdd, "3 4 5", "3 4 5"}, {api.OSub, "-1 0 1", "-1 0 1"}, {api.OMul, "2 4 6", "2 4 6"}, {api.ODiv, "0.5 1 1.5", "0.5 1 1.5"}, {api.OMod, "1 0 1", "1 0 1"}, {api.OPow, "1 4 9", "1 4 9"},
		{api.OEq, ". 2 .", "0 1 0"}, {api.ONe, "1 . 3", "1 0 1"}, {api.OGt, ". . 3", "0 0 1"}, {api.OLt, "1 . .", "1 0 0"}, {api.OGe, ". 2 3", "0 1 1"}, {api.OLe, "1 2 .", "1 1 0"},
	} {
		for _, flag := range []bool{false, true} {
			for _, m := range []api.Match{ignoring(), on("a", "b"), on("a"), ignoring("b"), on("b", "a", "x", "a"), ignoring("x", "b", "b", "__name__")} {
				values := x.values
				if flag {
					values = x.flags
				}
				var want []api.Point
				for i, v := range strings.Fields(values) {
					set := fmt.Sprintf(`a="%d"`, i+1)
					if m.On == slices.Contains(m.Labels, "b") {
						set += `,b="x"`
					}
					name := ""
					if x.op > api.OPow && !flag && !m.On && !slices.Contains(m.Labels, "__name__") {
						name = "m"
					}
					if v != "." {
						want = append(want, pts(name+"{"+set+"} "+v)...)
					}
				}
				got, e := Binary(x.op, l, r, m, flag)
				check(t, fmt.Sprint(x.op, flag, m), got, e, want, api.OK)
				checkBinary(t, x.op, l, r, m, flag)
			}
		}
	}
}

func TestP15_3_Names(t *testing.T) {
	l, r := pts(`m{a="1"} 1`, `n{a="2"} 2`), pts(`n{a="1"} 1`, `n{a="2"} 2`)
	for _, x := range []struct {
		op   int
		m    api.Match
		flag bool
		want []api.Point
	}{
		// The signature has __name__ with on alone.
		{api.OAdd, ignoring(), false, pts(`{a="1"} 2`, `{a="2"} 4`)},
		{api.OAdd, on("__name__", "a"), false, pts(`{a="2"} 4`)},
		{api.OEq, on("__name__", "a"), false, pts(`n{a="2"} 2`)},
		{api.OEq, on("__name__", "a"), true, pts(`{a="2"} 1`)},
		{api.OEq, on("a"), false, pts(`{a="1"} 1`, `{a="2"} 2`)},
		{api.OEq, ignoring(), false, pts(`m{a="1"} 1`, `n{a="2"} 2`)},
		{api.OEq, ignoring(), true, pts(`{a="1"} 1`, `{a="2"} 1`)},
		{api.OEq, ignoring("__name__"), false, pts(`{a="1"} 1`, `{a="2"} 2`)},
		{api.OAnd, card(on("__name__", "a"), 3), false, pts(`n{a="2"} 2`)},
		{api.OAnd, card(ignoring(), 3), false, pts(`m{a="1"} 1`, `n{a="2"} 2`)},
		{api.OUnless, card(on("__name__"), 3), true, pts(`m{a="1"} 1`)},
		{api.OOr, card(on("__name__", "a"), 3), false, pts(`m{a="1"} 1`, `n{a="1"} 1`, `n{a="2"} 2`)},
		{api.OOr, card(ignoring(), 3), true, pts(`m{a="1"} 1`, `n{a="2"} 2`)},
		// Include may bring the one side's.
		{api.OAdd, card(on("a"), 1, "__name__"), false, pts(`n{a="1"} 2`, `n{a="2"} 4`)},
		{api.OAdd, card(on("a"), 2, "__name__"), false, pts(`m{a="1"} 2`, `n{a="2"} 4`)},
		{api.OEq, card(on("a"), 1, "__name__"), false, pts(`n{a="1"} 1`, `n{a="2"} 2`)},
		{api.OEq, card(on("a"), 1), false, pts(`m{a="1"} 1`, `n{a="2"} 2`)},
		{api.OEq, card(on("a"), 1), true, pts(`{a="1"} 1`, `{a="2"} 1`)},
		{api.OEq, card(on("a"), 2), false, pts(`n{a="1"} 1`, `n{a="2"} 2`)},
	} {
		got, e := Binary(x.op, l, r, x.m, x.flag)
		check(t, fmt.Sprint(x), got, e, x.want, api.OK)
	}
}

func TestP15_3_Grouped(t *testing.T) {
	many := pts(`m{a="1",b="x"} 1`, `m{a="1",b="y",c="own"} 2`, `m{a="2",b="x"} 3`, `m{a="3",b="x"} 3`)
	one := pts(`n{a="1",c="c1",d="d1"} 10`, `n{a="2",d="d2"} 20`, `n{a="4"} 40`)
	for _, x := range []struct {
		include []string
		want    []api.Point // of -
	}{
		{nil, pts(`{a="1",b="x"} -9`, `{a="1",b="y",c="own"} -8`, `{a="2",b="x"} -17`)},
		{[]string{"d"}, pts(`{a="1",b="x",d="d1"} -9`, `{a="1",b="y",c="own",d="d1"} -8`, `{a="2",b="x",d="d2"} -17`)},
		{[]string{"d", "d", "zz"}, pts(`{a="1",b="x",d="d1"} -9`, `{a="1",b="y",c="own",d="d1"} -8`, `{a="2",b="x",d="d2"} -17`)},
		{[]string{"c"}, pts(`{a="1",b="x",c="c1"} -9`, `{a="1",b="y",c="c1"} -8`, `{a="2",b="x"} -17`)},
		{[]string{"d", "c"}, pts(`{a="1",b="x",c="c1",d="d1"} -9`, `{a="1",b="y",c="c1",d="d1"} -8`, `{a="2",b="x",d="d2"} -17`)},
	} {
		got, e := Binary(api.OSub, many, one, card(on("a"), api.ManyToOne, x.include...), false)
		check(t, fmt.Sprint("group_left", x.include), got, e, x.want, api.OK)
		got, e = Binary(api.OSub, one, many, card(on("a"), api.OneToMany, x.include...), true)
		for i := range x.want {
			x.want[i].V = -x.want[i].V
		}
		check(t, fmt.Sprint("group_right", x.include), got, e, x.want, api.OK)
	}
	// The label b, which the one side has not, goes by Include.
	got, e := Binary(api.OAdd, many[2:], one, card(on("a"), api.ManyToOne, "b"), false)
	check(t, "b", got, e, pts(`{a="2"} 23`), api.OK)
	got, e = Binary(api.OAdd, many, one, card(on("a"), api.ManyToOne, "b", "c"), false)
	check(t, "b goes, and two come to one", got, e, nil, api.ErrMany)
	// With ignoring a name may be in Labels and Include.
	got, e = Binary(api.OAdd, pts(`{a="1",b="x"} 1`, `{a="1",b="y"} 2`), pts(`{a="1",b="z",c="w"} 10`), card(ignoring("b", "c"), api.ManyToOne, "c"), false)
	check(t, "ignoring", got, e, pts(`{a="1",b="x",c="w"} 11`, `{a="1",b="y",c="w"} 12`), api.OK)
	// A comparison tells l's value, whichever side has many.
	for _, x := range []struct {
		op   int
		want []api.Point
	}{{api.OLt, pts(`m{a="1",b="x"} 1`, `m{a="1",b="y",c="own"} 2`, `m{a="2",b="x"} 3`)}, {api.OGe, nil}} {
		got, e = Binary(x.op, many, one, card(on("a"), api.ManyToOne), false)
		check(t, "group_left", got, e, x.want, api.OK)
	}
	got, e = Binary(api.OGt, one, many, card(on("a"), api.OneToMany, "d"), false)
	check(t, "group_right", got, e, pts(`m{a="1",b="x",d="d1"} 10`, `m{a="1",b="y",c="own",d="d1"} 10`, `m{a="2",b="x",d="d2"} 20`), api.OK)
	got, e = Binary(api.OGt, one, many, card(on("a"), api.OneToMany), true)
	check(t, "group_right bool", got, e, pts(`{a="1",b="x"} 1`, `{a="1",b="y",c="own"} 1`, `{a="2",b="x"} 1`), api.OK)
}

func TestP15_3_TooManyLabels(t *testing.T) {
	from := func(n int, v float64) []api.Point { return []api.Point{{Labels: many(n, "m"), V: v}} }
	other := []api.Point{{Labels: many(16, "o"), V: 2}}
	all := []string{}
	for _, one := range many(16, "o") {
		all = append(all, one.Name)
	}
	for _, x := range []struct {
		own, include int
		want         api.Errno
	}{{16, 0, api.OK}, {15, 1, api.OK}, {16, 1, api.ErrLabel}, {0, 16, api.OK}, {1, 16, api.ErrLabel}, {16, 16, api.ErrLabel}, {8, 8, api.OK}, {8, 9, api.ErrLabel}} {
		m := card(on(), api.ManyToOne, all[:x.include]...)
		got, e := Binary(api.OAdd, from(x.own, 1), other, m, false)
		if e != x.want || e == api.OK && (len(got) != 1 || len(got[0].Labels) != x.own+x.include) || e != api.OK && got != nil {
			t.Error(x, show(got), e)
		}
		m.Card = api.OneToMany
		if got, e := Binary(api.OAdd, other, from(x.own, 1), m, false); e != x.want || e != api.OK && got != nil {
			t.Error(x, show(got), e)
		}
		// Only a result is at fault: where the comparison does not hold there is none.
		m.Card = api.ManyToOne
		if got, e := Binary(api.OGt, from(x.own, 1), other, m, false); e != api.OK || len(got) != 0 {
			t.Error(x, show(got), e)
		}
		if _, e := Binary(api.OGt, from(x.own, 1), other, m, true); e != x.want {
			t.Error(x, e)
		}
	}
	// A name that goes makes room: sixteen with __name__, which + takes away, and one that Include replaces.
	full := append(of("__name__", "m"), many(15, "o")...)
	got, e := Binary(api.OAdd, []api.Point{{Labels: full, V: 1}}, other, card(on(), api.ManyToOne, all...), false)
	check(t, "replaced", got, e, []api.Point{{Labels: many(16, "o"), V: 3}}, api.OK)
	got, e = Binary(api.OLt, []api.Point{{Labels: full, V: 1}}, other, card(on(), api.ManyToOne, all...), false)
	check(t, "with its name", got, e, nil, api.ErrLabel)
	// ErrLabel is told ahead of two results with one label set, the one side's fault ahead of it.
	l := []api.Point{{Labels: append(of("__name__", "m"), many(15, "m")...)}, {Labels: append(of("__name__", "n"), many(15, "m")...)}}
	got, e = Binary(api.OAdd, l, other, card(on(), api.ManyToOne, all[:1]...), false)
	check(t, "two with one", got, e, nil, api.ErrMany)
	got, e = Binary(api.OAdd, l, other, card(on(), api.ManyToOne, all[:2]...), false)
	check(t, "two with one, too many", got, e, nil, api.ErrLabel)
	got, e = Binary(api.OAdd, l, append(pts(`{z="1"} 1`), other...), card(on(), api.ManyToOne, all[:2]...), false)
	check(t, "two on the one side", got, e, nil, api.ErrMany)
}

func TestP15_3_Sets(t *testing.T) {
	l := []api.Point{{Labels: of("__name__", "m", "a", "1"), V: stale}, {Labels: of("a", "2"), V: otherNaN}, {Labels: of("a", "2", "b", "x"), V: minusZero}}
	r := []api.Point{{Labels: of("__name__", "n", "a", "1"), V: 1}, {Labels: of("__name__", "o", "a", "1"), V: 2}, {Labels: of("a", "2", "b", "y"), V: nan}, {Labels: of("a", "3"), V: stale}}
	at := func(list []api.Point, places ...int) []api.Point {
		var out []api.Point
		for _, i := range places {
			out = append(out, list[i])
		}
		return out
	}
	for _, x := range []struct {
		m           api.Match
		and, unless []api.Point
		or          []api.Point // of r
	}{
		{ignoring(), at(l, 0), at(l, 1, 2), at(r, 2, 3)},
		{on(), l, nil, nil},
		{on("a"), l, nil, at(r, 3)},
		{on("b"), at(l, 0, 1), at(l, 2), at(r, 2)},
		{ignoring("b"), l, nil, at(r, 3)},
		{ignoring("a"), at(l, 0, 1), at(l, 2), at(r, 2)},
		{ignoring("a", "b"), l, nil, nil},
		{on("__name__"), at(l, 1, 2), at(l, 0), at(r, 0, 1)},
		{on("zz", "zz"), l, nil, nil},
	} {
		x.m.Card = api.ManyToMany
		for _, flag := range []bool{false, true} {
			got, e := Binary(api.OAnd, l, r, x.m, flag)
			check(t, fmt.Sprint("and", x.m), got, e, x.and, api.OK)
			got, e = Binary(api.OUnless, l, r, x.m, flag)
			check(t, fmt.Sprint("unless", x.m), got, e, x.unless, api.OK)
			want, _ := modelVector(append(slices.Clone(l), x.or...))
			got, e = Binary(api.OOr, l, r, x.m, flag)
			check(t, fmt.Sprint("or", x.m), got, e, want, api.OK)
		}
	}
	// More than MaxPoints together.
	a, b := numbered(1000, "a"), numbered(1000, "b")
	m := card(ignoring(), api.ManyToMany)
	got, e := Binary(api.OOr, a, b[:1], m, false)
	check(t, "or of one more", got, e, nil, api.ErrLarge)
	if got, e := Binary(api.OOr, a, a, m, false); e != api.OK || len(got) != 1000 {
		t.Error("or of MaxPoints", len(got), e)
	}
	if got, e := Binary(api.OOr, a[1:], b[:1], m, false); e != api.OK || len(got) != 1000 {
		t.Error("or of 999 and 1", len(got), e)
	}
	if got, e := Binary(api.OUnless, a, b, m, false); e != api.OK || len(got) != 1000 {
		t.Error("unless", len(got), e)
	}
}

func TestP15_3_Many(t *testing.T) {
	two := pts(`m{a="1",b="x"} 1`, `m{a="1",b="y"} 2`, `m{a="2",b="x"} 3`)
	one := pts(`n{a="1"} 1`, `n{a="2"} 5`)
	for _, x := range []struct {
		what string
		op   int
		l, r []api.Point
		m    api.Match
		flag bool
		want api.Errno
	}{
		{"two results of one signature", api.OAdd, two, one, on("a"), false, api.ErrMany},
		{"two results of one signature", api.OAdd, two, one, ignoring("b"), false, api.ErrMany},
		{"two results with bool", api.OEq, two, one, on("a"), true, api.ErrMany},
		{"one of them holds", api.OEq, two, one, on("a"), false, api.OK},
		{"none of them holds", api.OGt, two, pts(`n{a="1"} 9`), on("a"), false, api.OK},
		{"both hold", api.OGe, two, one, on("a"), false, api.ErrMany},
		{"two of the many side that none matches", api.OAdd, two, one[1:], on("a"), false, api.OK},
		{"two of the one side", api.OAdd, one, two, on("a"), false, api.ErrMany},
		{"two of the one side that nothing matches", api.OAdd, one[1:], two, on("a"), false, api.ErrMany},
		{"two of the one side, and no many side", api.OEq, nil, two, on("a"), false, api.ErrMany},
		{"many to one", api.OAdd, two, one, card(on("a"), 1), false, api.OK},
		{"many to one, turned about", api.OAdd, one, two, card(on("a"), 1), false, api.ErrMany},
		{"one to many", api.OAdd, one, two, card(on("a"), 2), false, api.OK},
		{"one to many, turned about", api.OAdd, two, one, card(on("a"), 2), false, api.ErrMany},
		{"one to many, and no many side", api.OAdd, two, nil, card(on("a"), 2), false, api.ErrMany},
		{"two names come to one", api.OAdd, pts(`m{a="1"} 1`, `n{a="1"} 1`), one, card(on("a"), 1), false, api.ErrMany},
		{"two names are kept", api.OLe, pts(`m{a="1"} 1`, `n{a="1"} 1`), one, card(on("a"), 1), false, api.OK},
		{"two names with bool", api.OLe, pts(`m{a="1"} 1`, `n{a="1"} 1`), one, card(on("a"), 1), true, api.ErrMany},
		{"two names of one signature", api.OLe, pts(`m{a="1"} 1`, `n{a="1"} 1`), one, ignoring(), false, api.ErrMany},
	} {
		got, e := Binary(x.op, x.l, x.r, x.m, x.flag)
		if e != x.want || e != api.OK && got != nil {
			t.Error(x.what, show(got), e)
		}
		checkBinary(t, x.op, x.l, x.r, x.m, x.flag)
	}
}

func TestP15_3_Cards(t *testing.T) {
	l, r := pts(`m{a="1"} 1`, `{b="1"} 2`), pts(`n{a="1"} 1`)
	for _, op := range append(wrongOps, ops...) {
		for _, c := range []int{0, 1, 2, 3, 4, -1, 100, -1 << 63, 1<<63 - 1} {
			for _, flag := range []bool{false, true} {
				want := api.ErrOp
				if op >= 1 && op <= 15 {
					want = api.ErrArg
					if op >= 13 && c == 3 || op < 13 && c >= 0 && c < 3 {
						want = api.OK
					}
				}
				if got, e := Binary(op, l, r, card(ignoring(), c), flag); e != want || e != api.OK && got != nil {
					t.Error(op, c, show(got), e)
				}
				checkBinary(t, op, l, r, card(ignoring(), c), flag)
				checkBinary(t, op, nil, nil, card(on(), c), flag)
			}
		}
	}
}

func TestP15_3_Faults(t *testing.T) {
	fine := pts(`{a="1"} 1`)
	large, wrong, twice := numbered(1001, "a"), []api.Point{{Labels: of("a", "")}}, pts(`{a="1"} 1`, `{a="1"} 1`)
	names := []string{"", "1", "a:b", "é", "a b", "\xff", strings.Repeat("n", 65)}
	for _, x := range []struct {
		op   int
		l, r []api.Point
		m    api.Match
		want api.Errno
	}{
		{0, large, wrong, card(on(""), 9, ""), api.ErrOp}, {16, fine, fine, on(), api.ErrOp},
		{api.OAdd, large, wrong, card(on(""), 9, ""), api.ErrArg}, {api.OAdd, large, wrong, card(on(""), 3, ""), api.ErrArg}, {api.OAnd, large, wrong, card(on(""), 0, ""), api.ErrArg},
		{api.OAdd, large, wrong, card(on(""), 0, "a"), api.ErrName}, {api.OAdd, large, wrong, card(on("a"), 1, "a", ""), api.ErrName}, {api.OAnd, large, wrong, card(on("a"), 3, "a", "1"), api.ErrName}, {api.OAnd, large, wrong, card(ignoring("a", "-"), 3, "a"), api.ErrName}, {api.OAdd, large, wrong, card(on(), 0, "-"), api.ErrName},
		{api.OAdd, large, wrong, card(on(), 0, "a"), api.ErrArg}, {api.OEq, large, wrong, card(ignoring(), 0, "a"), api.ErrArg}, {api.OAnd, large, wrong, card(on(), 3, "a"), api.ErrArg}, {api.OOr, fine, fine, card(ignoring(), 3, "a"), api.ErrArg},
		{api.OAdd, large, wrong, card(on("b", "a"), 1, "c", "a"), api.ErrArg}, {api.OAdd, fine, fine, card(on("b"), 2, "b"), api.ErrArg}, {api.OAdd, large, wrong, card(ignoring("b"), 2, "b"), api.ErrLarge},
		{api.OAdd, fine, fine, card(ignoring("b"), 2, "b"), api.OK}, {api.OAdd, fine, fine, card(on(strings.Repeat("n", 64)), 2, "b"), api.OK},
		{api.OAdd, large, wrong, on(), api.ErrLarge}, {api.OAdd, wrong, large, on(), api.ErrLabel}, {api.OAdd, twice, large, on(), api.ErrMany}, {api.OAdd, fine, large, on(), api.ErrLarge}, {api.OAdd, fine, wrong, on(), api.ErrLabel}, {api.OAdd, fine, twice, on(), api.ErrMany},
		{api.OAdd, large, wrong, card(on(), 2), api.ErrLarge}, {api.OAdd, wrong, large, card(on(), 2), api.ErrLabel}, {api.OAdd, fine, wrong, card(on(), 2), api.ErrLabel},
		{api.OOr, twice, wrong, card(on(), 3), api.ErrMany}, {api.OOr, nil, wrong, card(on(), 3), api.ErrLabel}, {api.OAnd, nil, large, card(on(), 3), api.ErrLarge}, {api.OUnless, nil, twice, card(on(), 3), api.ErrMany},
		// The vectors' faults ahead of two of the one side.
		{api.OAdd, wrong, numbered(2, "a"), on(), api.ErrLabel}, {api.OAdd, numbered(2, "a"), wrong, card(on(), 2), api.ErrLabel},
	} {
		for _, flag := range []bool{false, true} {
			got, e := Binary(x.op, x.l, x.r, x.m, flag)
			if e != x.want || e != api.OK && got != nil {
				t.Error(x.op, x.m, show(got), e, x.want)
			}
			checkBinary(t, x.op, x.l, x.r, x.m, flag)
		}
	}
	for _, name := range names {
		for _, op := range ops {
			for c := range 4 {
				for _, m := range []api.Match{card(on("a", name), c), card(ignoring(name), c), card(on(), c, "a", name), card(ignoring("a"), c, name)} {
					want := api.ErrName
					if (c == 3) != (op >= 13) {
						want = api.ErrArg
					}
					got, e := Binary(op, fine, fine, m, false)
					check(t, fmt.Sprint(op, m), got, e, nil, want)
				}
			}
		}
	}
}

func TestP15_3_Empty(t *testing.T) {
	some := pts(`m{a="1"} 1`, `{b="1"} 2`)
	for _, op := range ops {
		for c := range 3 {
			if op >= 13 {
				c = 3
			}
			for _, none := range [][]api.Point{nil, {}} {
				for _, flag := range []bool{false, true} {
					left := some
					if op < 13 || op == api.OAnd {
						left = nil
					}
					got, e := Binary(op, some, none, card(ignoring(), c), flag)
					want, _ := modelVector(left)
					check(t, fmt.Sprint(op, c, " and none"), got, e, want, api.OK)
					right := some
					if op != api.OOr {
						right = nil
					}
					got, e = Binary(op, none, some, card(ignoring(), c), flag)
					want, _ = modelVector(right)
					check(t, fmt.Sprint("none and ", op, c), got, e, want, api.OK)
					got, e = Binary(op, none, none, card(on(), c), flag)
					check(t, fmt.Sprint("none and none ", op, c), got, e, nil, api.OK)
				}
			}
		}
	}
}

// Large vectors are matched point by point.
func TestP15_3_MaxPoints(t *testing.T) {
	l, r := numbered(1000, "a"), numbered(1000, "a")
	slices.Reverse(r)
	for _, m := range []api.Match{ignoring(), on("a"), card(on("a"), 1), card(ignoring("b"), 2)} {
		got, e := Binary(api.OSub, l, r, m, false)
		if e != api.OK || len(got) != 1000 {
			t.Fatal(len(got), e)
		}
		for _, p := range got {
			if p.V != 0 {
				t.Fatal(show([]api.Point{p}))
			}
		}
	}
	got, e := Binary(api.OMul, l, pts(`{} 2`), card(on(), 1), false)
	if e != api.OK || len(got) != 1000 || got[0].V != 1998 {
		t.Error(len(got), e)
	}
}

func TestP15_3_AnyVectors(t *testing.T) {
	r := rand.New(rand.NewSource(3))
	counts := map[api.Errno]int{}
	points := 0
	for range 60000 {
		op := 1 + r.Intn(15)
		if r.Intn(50) == 0 {
			op = r.Intn(20) - 2
		}
		a, b, m, flag := somePoints(r), somePoints(r), someMatch(r, op), r.Intn(2) == 0
		checkBinary(t, op, a, b, m, flag)
		got, e := Binary(op, a, b, m, flag)
		counts[e]++
		points += len(got)
	}
	for _, e := range []api.Errno{api.OK, api.ErrOp, api.ErrArg, api.ErrName, api.ErrLabel, api.ErrMany} {
		if counts[e] < 100 {
			t.Error("few of", e, counts)
		}
	}
	if points < 20000 {
		t.Error("few points", points)
	}
}

// right answers points without a fault, and a Match that can stand with op.
func right(r *rand.Rand, op int) ([]api.Point, []api.Point, api.Match) {
	for {
		a, b, m := somePoints(r), somePoints(r), someMatch(r, op)
		_, e := modelVector(a)
		_, e2 := modelVector(b)
		if e == api.OK && e2 == api.OK && modelFault(op, m) == api.OK {
			return a, b, m
		}
	}
}

func TestP15_4_AndUnlessPart(t *testing.T) {
	r := rand.New(rand.NewSource(4))
	for range 3000 {
		a, b, m := right(r, api.OAnd)
		with, e := Binary(api.OAnd, a, b, m, false)
		without, e2 := Binary(api.OUnless, a, b, m, true)
		if e != api.OK || e2 != api.OK {
			t.Fatal(e, e2)
		}
		want, _ := modelVector(a)
		both, e := Vector(append(with, without...))
		check(t, show(a), both, e, want, api.OK)
	}
}

func TestP15_5_OrIsWhole(t *testing.T) {
	r := rand.New(rand.NewSource(5))
	for range 3000 {
		a, b, m := right(r, api.OOr)
		all, e := Binary(api.OOr, a, b, m, false)
		if e != api.OK {
			t.Fatal(e)
		}
		for _, p := range a {
			if !slices.ContainsFunc(all, func(q api.Point) bool { return sameList([]api.Point{p}, []api.Point{q}) }) {
				t.Fatal("a point of the left side is not there", show(a), show(all))
			}
		}
		want, _ := modelVector(a)
		got, e := Binary(api.OOr, a, a, m, false)
		check(t, "l or l", got, e, want, api.OK)
		got, e = Binary(api.OAnd, a, a, m, false)
		check(t, "l and l", got, e, want, api.OK)
		got, e = Binary(api.OUnless, a, a, m, false)
		check(t, "l unless l", got, e, nil, api.OK)
	}
}

func TestP15_6_TurnedAbout(t *testing.T) {
	r := rand.New(rand.NewSource(6))
	some := 0
	for range 20000 {
		op := []int{api.OAdd, api.OMul}[r.Intn(2)]
		a, b, m := right(r, op)
		m.Card, m.Include = api.OneToOne, nil
		got, e := Binary(op, a, b, m, false)
		turned, e2 := Binary(op, b, a, m, false)
		if e == api.OK && e2 == api.OK {
			check(t, show(a)+" and "+show(b), turned, e2, got, e)
			some += len(got)
		}
	}
	if some < 1000 {
		t.Error("few points", some)
	}
}

func TestP15_6_ComparisonsTellLsValues(t *testing.T) {
	r := rand.New(rand.NewSource(66))
	some := 0
	for range 20000 {
		op := api.OEq + r.Intn(6)
		a, b, m := right(r, op)
		got, _ := Binary(op, a, b, m, false)
		for _, p := range got {
			if !slices.ContainsFunc(a, func(q api.Point) bool { return same(p.V, q.V) }) {
				t.Fatal(show(got), "of", show(a))
			}
			some++
		}
	}
	if some < 1000 {
		t.Error("few points", some)
	}
}

func TestP15_7_FlagsTellTheSame(t *testing.T) {
	r := rand.New(rand.NewSource(7))
	some := 0
	for range 20000 {
		op := api.OEq + r.Intn(6)
		a, b, m := right(r, op)
		// Labels by which the results are told apart.
		m.Card, m.Include = api.OneToOne, nil
		with, e := Binary(op, a, b, m, true)
		if e != api.OK {
			continue
		}
		without, e := Binary(op, a, b, m, false)
		if e != api.OK {
			t.Fatal(e)
		}
		var want []api.Point
		for _, p := range without {
			want = append(want, api.Point{Labels: unnamed(p.Labels), V: 1})
		}
		want, _ = modelVector(want)
		got := slices.DeleteFunc(clone(with), func(p api.Point) bool { return p.V != 1 })
		check(t, show(a)+" and "+show(b), got, e, want, api.OK)
		for _, p := range with {
			if !same(p.V, 0) && !same(p.V, 1) {
				t.Fatal("neither 1 nor 0", show(with))
			}
		}
		some += len(want)
	}
	if some < 500 {
		t.Error("few points", some)
	}
}

func TestP15_9_AnyOrder(t *testing.T) {
	r := rand.New(rand.NewSource(9))
	for range 20000 {
		op := 1 + r.Intn(15)
		a, b, m := somePoints(r), somePoints(r), someMatch(r, op)
		flag := r.Intn(2) == 0
		x := someValues[r.Intn(len(someValues))]
		want, e := Binary(op, a, b, m, flag)
		left, e1 := Left(op, x, a, flag)
		rest, e2 := Right(op, a, x, flag)
		neg, e3 := Neg(a)
		sorted, e4 := Vector(a)
		for range 3 {
			c, d := clone(a), clone(b)
			r.Shuffle(len(c), func(i, j int) { c[i], c[j] = c[j], c[i] })
			r.Shuffle(len(d), func(i, j int) { d[i], d[j] = d[j], d[i] })
			n := m
			n.Labels, n.Include = slices.Clone(m.Labels), slices.Clone(m.Include)
			slices.Reverse(n.Labels)
			slices.Reverse(n.Include)
			got, ge := Binary(op, c, d, n, flag)
			check(t, "Binary", got, ge, want, e)
			got, ge = Left(op, x, c, flag)
			check(t, "Left", got, ge, left, e1)
			got, ge = Right(op, c, x, flag)
			check(t, "Right", got, ge, rest, e2)
			got, ge = Neg(c)
			check(t, "Neg", got, ge, neg, e3)
			got, ge = Vector(c)
			check(t, "Vector", got, ge, sorted, e4)
		}
	}
}
