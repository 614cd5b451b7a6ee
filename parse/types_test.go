package parse

import (
	"math/rand"
	"slices"
	"testing"

	"tocsin/api"
)

func TestP14_3_Types(t *testing.T) {
	for s, want := range map[string]int{
		"1": api.VScalar, "Inf": api.VScalar, `"a"`: api.VString, "a": api.VVector, `{a="b"}`: api.VVector, "a[5m]": api.VMatrix, "a offset 5m": api.VVector, "a[5m] offset 5m": api.VMatrix, `{a=~".+"}`: api.VVector, `{a!=""}`: api.VVector, `{a="",b="c"}`: api.VVector, `{a!~"x*"}`: api.VVector,
		"(1)": api.VScalar, `("a")`: api.VString, "(a)": api.VVector, "(a[5m])": api.VMatrix, "((1))": api.VScalar, "-1": api.VScalar, "-a": api.VVector, "-(a)": api.VVector, "--1": api.VScalar,
		"1 + 2": api.VScalar, "1 ^ 2": api.VScalar, "a + 1": api.VVector, "1 + a": api.VVector, "a + b": api.VVector, "1 > bool 2": api.VScalar, "a > 1": api.VVector, "1 > a": api.VVector, "a > bool 1": api.VVector, "a > b": api.VVector, "a and b": api.VVector, "a or b": api.VVector, "a unless b": api.VVector, "1 + ignoring() 2": api.VScalar, "a + ignoring() 2": api.VVector,
		"a + on(x) b": api.VVector, "a + on() b": api.VVector, "a + ignoring(x) b": api.VVector, "a + on(x) group_left b": api.VVector, "a + on(x) group_left(y) b": api.VVector, "a + ignoring(x) group_right(x) b": api.VVector, "a and on(x) b": api.VVector, "a + ignoring() group_left() b": api.VVector, "a + on(x, x) group_left(y, y) b": api.VVector,
		"sum(a)": api.VVector, "topk(3, a)": api.VVector, "bottomk(scalar(a), a)": api.VVector, "quantile(0.5, a)": api.VVector, "quantile(-1 + 2, a)": api.VVector, `count_values("x", a)`: api.VVector, `count_values(("x"), a)`: api.VVector, `count_values("__name__", a)`: api.VVector, "sum by (x, x, __name__) (a)": api.VVector,
		"rate(a[5m])": api.VVector, "absent_over_time(a[5m])": api.VVector, "quantile_over_time(0.5, a[5m])": api.VVector, "abs(a)": api.VVector, "clamp(a, 1, 2)": api.VVector, "clamp_min(a, 1)": api.VVector, "histogram_quantile(0.9, a)": api.VVector, "scalar(a)": api.VScalar, "vector(1)": api.VVector, "time()": api.VScalar, "vector(time())": api.VVector, "rate((a[5m]))": api.VVector, "sort_desc(-a)": api.VVector,
		`label_join(a, "x", "")`: api.VVector, `label_join(a, "x", "- ", "y", "z")`: api.VVector, `label_join(a, ("x"), ("1"), (("y")))`: api.VVector, `label_join(a, "x", "1", "x", "__name__")`: api.VVector,
		"sum(up) / 2": api.VVector,
	} {
		if k, e, at := Check(must(t, s)); k != want || e != api.OK || at != 0 {
			t.Errorf("%s: %d, %d, %d", s, k, e, at)
		}
		checkParse(t, s)
	}
}

func TestP14_3_Faults(t *testing.T) {
	many := "{" + rep(`a="b",`, 17) + "}"
	for _, c := range []struct {
		s  string
		e  api.Errno
		at int
	}{
		// Selectors: the error of their matchers, then whether one does not match the empty value.
		{"{}", api.ErrType, 0}, {`{a=""}`, api.ErrType, 0}, {`{a!="b"}`, api.ErrType, 0}, {`{a=~".*"}`, api.ErrType, 0}, {`{a!~".+"}`, api.ErrType, 0}, {`{a="",b=~""}[5m]`, api.ErrType, 0}, {`{a=~"("}`, api.ErrRegex, 0}, {`a{a=~"("}`, api.ErrRegex, 0}, {`a{b="` + rep("x", 257) + `"}`, api.ErrSize, 0}, {many, api.ErrFull, 0}, {`{a=~"` + rep("(", 51) + rep(")", 51) + `"}`, api.ErrDeep, 0}, {`{a!~"(a{99}){99}"}`, api.ErrLarge, 0}, {rep("n", 257), api.ErrSize, 0}, {`{a=""} + {a=~"("}`, api.ErrType, 0}, {`{a=~"("} + {a=""}`, api.ErrRegex, 0}, {`a + {a=""}`, api.ErrType, 1}, {`{__name__=""}`, api.ErrType, 0},
		// Signs and operators.
		{`-"a"`, api.ErrType, 1}, {"-a[5m]", api.ErrType, 1}, {`-("a")`, api.ErrType, 2}, {`1 + "a"`, api.ErrType, 2}, {`"a" + 1`, api.ErrType, 2}, {`"a" == "a"`, api.ErrType, 2}, {"x + y[1m]", api.ErrType, 2}, {"x[1m] + y", api.ErrType, 2}, {"x[1m] + 1", api.ErrType, 2}, {`a + "b"`, api.ErrType, 2}, {`a and "b"`, api.ErrType, 2},
		{"1 > 2", api.ErrType, 2}, {"1 == 2", api.ErrType, 2}, {"1 != 2", api.ErrType, 2}, {"1 < 2", api.ErrType, 2}, {"1 >= 2", api.ErrType, 2}, {"1 <= 2", api.ErrType, 2}, {"time() > 2", api.ErrType, 2}, {"(1) > (2)", api.ErrType, 4}, {"1 > 2 > 3", api.ErrType, 2}, {"1 > bool 2 > 3", api.ErrType, 4},
		{"1 and 2", api.ErrType, 2}, {"a and 1", api.ErrType, 2}, {"1 or a", api.ErrType, 2}, {"a unless 1", api.ErrType, 2}, {"a and b[1m]", api.ErrType, 2},
		{"1 + on() 2", api.ErrType, 2}, {"a + on() 2", api.ErrType, 2}, {"1 + on(x) a", api.ErrType, 2}, {"a + ignoring(x) 2", api.ErrType, 2}, {"1 + ignoring(x) 2", api.ErrType, 2}, {"a + ignoring() group_left 2", api.ErrType, 2}, {"1 + ignoring() group_right a", api.ErrType, 2}, {"1 + on(x) group_left(y) 2", api.ErrType, 2},
		{"a + on(x) group_left(x) b", api.ErrType, 2}, {"a + on(x, y) group_right(z, y) b", api.ErrType, 2}, {"a > bool on(x) group_left(y, x) b", api.ErrType, 2},
		// Aggregations.
		{"sum(1)", api.ErrType, 1}, {`sum("a")`, api.ErrType, 1}, {"sum(a[1m])", api.ErrType, 1}, {"sum(1, a)", api.ErrType, 2}, {`sum("a", a)`, api.ErrType, 2}, {"group(a, b)", api.ErrType, 2}, {"topk(a)", api.ErrType, 1}, {"topk(a, b)", api.ErrType, 2}, {`topk("a", b)`, api.ErrType, 2}, {"topk(1, 2)", api.ErrType, 2}, {"topk(1, a[1m])", api.ErrType, 2}, {"topk(a[1m], a)", api.ErrType, 2}, {"bottomk(a)", api.ErrType, 1}, {"quantile(a)", api.ErrType, 1}, {`quantile("1", a)`, api.ErrType, 2},
		{"count_values(a)", api.ErrType, 1}, {"count_values(1, a)", api.ErrType, 2}, {`count_values("a b", a)`, api.ErrType, 2}, {`count_values("", a)`, api.ErrType, 2}, {`count_values("a:b", a)`, api.ErrType, 2}, {`count_values("` + rep("n", 65) + `", a)`, api.ErrType, 2}, {`count_values(("1"), a)`, api.ErrType, 3}, {`count_values("a", 1)`, api.ErrType, 2}, {`count_values(a, a)`, api.ErrType, 2},
		// Functions.
		{"foo(1)", api.ErrOp, 1}, {"foo()", api.ErrOp, 0}, {"Inf()", api.ErrOp, 0}, {"Rate(a[5m])", api.ErrOp, 1}, {"a:b(c)", api.ErrOp, 1}, {"foo(a[1m] + 1)", api.ErrType, 2}, {"foo(1) + bar(2)", api.ErrOp, 1},
		{"rate(a)", api.ErrType, 1}, {"rate(1)", api.ErrType, 1}, {"rate()", api.ErrType, 0}, {"rate(a[1m], 1)", api.ErrType, 2}, {`rate("a")`, api.ErrType, 1}, {"abs(a[1m])", api.ErrType, 1}, {"abs(1)", api.ErrType, 1}, {"abs()", api.ErrType, 0}, {"abs(a, a)", api.ErrType, 2}, {"quantile_over_time(a[1m])", api.ErrType, 1}, {"quantile_over_time(a[1m], 1)", api.ErrType, 2}, {"quantile_over_time(1, a)", api.ErrType, 2}, {"quantile_over_time(1, 2, a[1m])", api.ErrType, 3},
		{"clamp(a, 1)", api.ErrType, 2}, {"clamp(1, a, 2)", api.ErrType, 3}, {"clamp(a, 1, a)", api.ErrType, 3}, {"clamp(a, 1, 2, 3)", api.ErrType, 4}, {"clamp_min(a)", api.ErrType, 1}, {"clamp_max(1, a)", api.ErrType, 2}, {"histogram_quantile(a, 1)", api.ErrType, 2}, {"histogram_quantile(1)", api.ErrType, 1}, {"scalar(1)", api.ErrType, 1}, {"scalar()", api.ErrType, 0}, {"vector(a)", api.ErrType, 1}, {"vector()", api.ErrType, 0}, {"time(1)", api.ErrType, 1}, {"absent(a[1m])", api.ErrType, 1}, {"timestamp(1)", api.ErrType, 1},
		{"label_join()", api.ErrType, 0}, {"label_join(a)", api.ErrType, 1}, {`label_join(a, "x")`, api.ErrType, 2}, {`label_join("x", "x", "x")`, api.ErrType, 3}, {`label_join(a, "", "x")`, api.ErrType, 3}, {`label_join(a, "1", "x")`, api.ErrType, 3}, {`label_join(a, "x", 1)`, api.ErrType, 3}, {`label_join(a, 1, "x")`, api.ErrType, 3}, {`label_join(a, "x", "", "")`, api.ErrType, 4}, {`label_join(a, "x", "", "y", "a b")`, api.ErrType, 5}, {`label_join(a, "x", "", "y", 1)`, api.ErrType, 5}, {`label_join(a, "x", "", a)`, api.ErrType, 4}, {`label_join(a, ("1"), "")`, api.ErrType, 4}, {`label_join(1, "x", "")`, api.ErrType, 3},
		// Of two faults the first node's.
		{`foo({a=""})`, api.ErrType, 0}, {`-"a" + foo()`, api.ErrType, 1}, {`foo() + -"a"`, api.ErrOp, 0}, {"sum(1) + sum(2)", api.ErrType, 1}, {"(1 > 2) + foo()", api.ErrType, 2}, {"foo(sum(1))", api.ErrType, 1}, {"rate(foo())", api.ErrOp, 0},
	} {
		if k, e, at := Check(must(t, c.s)); k != 0 || e != c.e || at != c.at {
			t.Errorf("%.100s: %d, %d, %d, not %d, %d", c.s, k, e, at, c.e, c.at)
		}
		checkParse(t, c.s)
	}
}

func TestP14_3_EachFunction(t *testing.T) {
	of := map[int]string{api.VScalar: "1", api.VString: `"x"`, api.VVector: "a", api.VMatrix: "a[1m]"}
	for name, f := range functions {
		kinds, kind, ok := Kinds(name)
		if !ok || kind != f.kind || !slices.Equal(kinds, f.args) {
			t.Error(name, kinds, kind, ok)
		}
		// What is answered is new memory.
		for i := range kinds {
			kinds[i] = -1
		}
		_ = append(kinds, -1)
		if again, _, _ := Kinds(name); !slices.Equal(again, f.args) {
			t.Error(name, again)
		}
		// As it is, and with each argument of each other kind, one more, and one less.
		texts := func(kinds []int) string {
			s := name + "("
			for i, k := range kinds {
				if i > 0 {
					s += ", "
				}
				s += of[k]
			}
			return s + ")"
		}
		if k, e, at := Check(must(t, texts(f.args))); k != f.kind || e != api.OK || at != 0 {
			t.Error(name, k, e, at)
		}
		checkParse(t, texts(f.args))
		for i := range f.args {
			for k := api.VScalar; k <= api.VMatrix; k++ {
				l := slices.Clone(f.args)
				l[i] = k
				checkParse(t, texts(l))
				if _, e, _ := Check(must(t, texts(l))); (e == api.OK) != (k == f.args[i]) {
					t.Error(texts(l), e)
				}
				checkParse(t, texts(append(slices.Clone(f.args), k)))
			}
			if _, e, at := Check(must(t, texts(slices.Delete(slices.Clone(f.args), i, i+1)))); e != api.ErrType || at != len(f.args)-1 {
				t.Error(name, i, e, at)
			}
		}
	}
	if len(functions) != 34 {
		t.Error(len(functions))
	}
	for _, name := range append([]string{"", "foo", "Rate", "rate ", "sum", "count", "and", "Inf", "\xff", "sum_over", "label_replace"}, append(slices.Clone(modelReserved), modelAggregations...)...) {
		if kinds, kind, ok := Kinds(name); kinds != nil || kind != 0 || ok {
			t.Error(name, kinds, kind, ok)
		}
	}
}

func TestP14_3_AnyTrees(t *testing.T) {
	r := rand.New(rand.NewSource(3))
	fine := 0
	for range 8000 {
		x := anyTree(r, r.Intn(7), true)
		if Right(x) != api.OK {
			continue
		}
		checkCheck(t, x)
		if _, e, _ := Check(x); e == api.OK {
			fine++
		}
	}
	if fine < 400 {
		t.Error(fine)
	}
}

// under: the node i and what it is made of, as a tree of its own; and how many nodes stand ahead of it.
func under(l []api.Node, i int) (api.Tree, int) {
	var order []int
	walk(l, i, &order)
	var out []api.Node
	from := order[0]
	for _, j := range order {
		n := l[j]
		switch n.Kind {
		case api.NNeg, api.NParen, api.NBinary, api.NAggr:
			n.A -= from
		}
		if n.Kind == api.NBinary || n.Kind == api.NAggr && n.B >= 0 {
			n.B -= from
		}
		n.Args = slices.Clone(n.Args)
		for k := range n.Args {
			n.Args[k] -= from
		}
		out = append(out, n)
	}
	return tree(out...), from
}

func TestP14_8_EachNodeAndItsParts(t *testing.T) {
	r := rand.New(rand.NewSource(8))
	for range 3000 {
		x := anyTree(r, 1+r.Intn(8), r.Intn(3) > 0)
		if Right(x) != api.OK {
			continue
		}
		_, e, at := Check(x)
		last := at
		if e == api.OK {
			last = len(x.Nodes) - 1
		}
		for i := range last + 1 {
			part, from := under(x.Nodes, i)
			_, pe, pat := Check(part)
			if i < at || e == api.OK {
				if pe != api.OK {
					t.Fatal(x, i, pe, pat)
				}
			} else if pe != e || pat+from != at {
				t.Fatal(x, i, pe, pat, e, at)
			}
		}
	}
}

func FuzzCheck(f *testing.F) {
	f.Add(int64(1), 5, true)
	f.Fuzz(func(t *testing.T, seed int64, size int, typed bool) {
		r := rand.New(rand.NewSource(seed))
		x := anyTree(r, size%12, typed)
		checkRight(t, x)
		checkCheck(t, x)
		for range 3 {
			changes(r, &x.Nodes[r.Intn(len(x.Nodes))], len(x.Nodes))
			checkRight(t, x)
		}
	})
}
