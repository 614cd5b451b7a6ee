package parse

import (
	"math"
	"math/rand"
	"reflect"
	"slices"
	"testing"

	"tocsin/api"
)

// checkRight holds Right and Print of any tree against the model.
func checkRight(t *testing.T, x api.Tree) {
	t.Helper()
	s, e := Print(x)
	want, we := modelPrint(x)
	if s != want || e != we || Right(x) != we {
		t.Fatalf("Print(%+v): %.200q, %d, not %.200q, %d", x, s, e, want, we)
	}
	if we != api.OK {
		if k, e, at := Check(x); k != 0 || e != api.ErrForm || at != 0 {
			t.Fatalf("Check(%+v): %d, %d, %d", x, k, e, at)
		}
	}
}

func TestP14_2_Print(t *testing.T) {
	for s, want := range map[string]string{
		"1": "1", "1.50": "1.5", "0x1F": "31", "1e21": "1e+21", "1e-7": "1e-07", "100000000000000000000": "100000000000000000000", "1e999": "Inf", "inf": "Inf", "nan": "NaN", "-Inf": "-Inf", "- 0": "-0",
		"'a\"'": `"a\""`, `"\x41\x0a"`: `"A\n"`, "( a )": "(a)", "((1))": "((1))",
		"a{ }": "a", "{ }": "{}", `a { b = 'c' , d =~ "e" , }`: `a{b="c",d=~"e"}`, `{__name__='a'}`: "a", `{__name__="a",b!="c"}`: `a{b!="c"}`, `{b!~"c",__name__="a"}`: `{b!~"c",__name__="a"}`,
		`{__name__="a",__name__="b"}`: `{__name__="a",__name__="b"}`, `{__name__="a",b="c",__name__=~"b"}`: `{__name__="a",b="c",__name__=~"b"}`, `{__name__!="a"}`: `{__name__!="a"}`, `{__name__=~"a"}`: `{__name__=~"a"}`, `{__name__=""}`: `{__name__=""}`, `{__name__="a b"}`: `{__name__="a b"}`, `{__name__="1a"}`: `{__name__="1a"}`, `{__name__="é"}`: `{__name__="é"}`, `{__name__="a-b"}`: `{__name__="a-b"}`, `{__name__=":"}`: ":", `{__name__="sum"}`: "sum", `{__name__="rate"}`: "rate", `{__name__="a1"}`: "a1",
		"a[300s]": "a[5m]", "a [ 90m ] offset 1500ms": "a[1h30m] offset 1s500ms", "a offset 0s": "a", "{} offset 1ms": "{} offset 1ms", "a offset 34y45w19h53m47s776ms": "a offset 34y45w19h53m47s776ms",
		"- a": "-a", "- - a": "--a", "+ a": "a", "-(a+b)": "-(a + b)", "a- -b": "a - -b",
		"a+b": "a + b", "a==bool b": "a == bool b", "a==bool on(x)b": "a == bool on (x) b", "a+on()b": "a + on () b", "a+ignoring()b": "a + b", "a+ignoring(x,y)b": "a + ignoring (x, y) b", "a*on(x,)group_left b": "a * on (x) group_left () b", "a*ignoring()group_right(y,z)b": "a * ignoring () group_right (y, z) b", "a*on()group_left(y)b": "a * on () group_left (y) b", "a and on(x)b": "a and on (x) b", "a or b unless c": "a or b unless c",
		"sum( a )": "sum(a)", "sum by()(a)": "sum(a)", "sum(a)by(x,y)": "sum by (x, y) (a)", "sum(a)without()": "sum without () (a)", "sum without(x)(a)": "sum without (x) (a)", "topk( 3 ,a)by(x)": "topk by (x) (3, a)", "topk(3,a)": "topk(3, a)",
		"time( )": "time()", "f(a,b ,1)": "f(a, b, 1)", "Inf( )": "Inf()", "a:b(c)": "a:b(c)",
		"rate(x{a=\"1\"}[5m]offset 1h)>bool 2": "rate(x{a=\"1\"}[5m] offset 1h) > bool 2",
	} {
		x := must(t, s)
		if got, e := Print(x); got != want || e != api.OK {
			t.Errorf("%s: %s, %d, not %s", s, got, e, want)
		}
		if e := Right(x); e != api.OK {
			t.Error(s, e)
		}
		if !Same(must(t, want), x) {
			t.Error(s, want)
		}
		checkRight(t, x)
	}
	// Words that can not stand ahead.
	for _, word := range append(slices.Clone(modelReserved), modelNumbers...) {
		if got, e := Print(tree(metric(word))); got != `{__name__="`+word+`"}` || e != api.OK {
			t.Error(word, got, e)
		}
	}
	for _, word := range append(slices.Clone(modelAggregations), "INF", "And", "rate", "time", "_", "__name__", "a:b", rep("a", 1000)) {
		if got, e := Print(tree(metric(word))); got != word || e != api.OK {
			t.Error(word, got, e)
		}
	}
}

// Names with each byte, ahead and behind.
func TestP14_2_Names(t *testing.T) {
	for b := range 128 {
		one := string(rune(b))
		letter := one >= "a" && one <= "z" || one >= "A" && one <= "Z" || one == "_" || one == ":"
		digit := one >= "0" && one <= "9"
		for name, ahead := range map[string]bool{one: letter, one + "x": letter, "x" + one: letter || digit, "x" + one + "y": letter || digit} {
			x := tree(metric(name))
			s, e := Print(x)
			if e != api.OK || (s == name) != ahead || (s[0] == '{') == ahead {
				t.Errorf("%q: %q, %d", name, s, e)
			}
			checkRight(t, x)
		}
	}
}

func TestP14_2_TreesThatCanNotBe(t *testing.T) {
	a, b := metric("a"), metric("b")
	for i, x := range []api.Tree{
		{}, tree(), {Nodes: []api.Node{}}, tree(api.Node{}), tree(api.Node{Kind: 9}), tree(api.Node{Kind: -1}), tree(api.Node{Kind: math.MaxInt}), tree(api.Node{Kind: math.MinInt}),
		// Numbers that have a sign, or are another NaN.
		tree(num(-1)), tree(num(math.Copysign(0, -1))), tree(num(math.Inf(-1))), tree(num(math.Float64frombits(0x7ff8000000000000))), tree(num(math.Float64frombits(0x7ff0000000000002))), tree(num(math.Float64frombits(0xfff8000000000001))), tree(num(math.Float64frombits(math.MaxUint64))),
		tree(str("\xff")), tree(a, b), tree(a, a, a),
		// Parts that are not ahead, not there, twice, or nobody's.
		tree(neg(0)), tree(paren(0)), tree(a, neg(1)), tree(a, neg(-1)), tree(a, neg(2)), tree(a, neg(math.MaxInt)), tree(a, neg(math.MinInt)), tree(neg(1), a), tree(a, b, neg(0)), tree(a, b, neg(1)), tree(a, bin(api.OAdd, 0, 0)), tree(a, b, bin(api.OAdd, 1, 0)), tree(a, b, bin(api.OAdd, 0, 2)), tree(a, b, bin(api.OAdd, 0, -1)), tree(a, b, neg(0), bin(api.OAdd, 2, 1)), tree(a, b, neg(1), bin(api.OAdd, 0, 1)),
		tree(a, call("f", 0, 0)), tree(a, b, call("f", 1, 0)), tree(a, b, call("f", 0)), tree(a, b, call("f", 1)), tree(a, call("f")), tree(call("f", 0)), tree(a, call("f", -1)), tree(a, call("f", 1)), tree(a, call("f", slices.Repeat([]int{0}, 100000)...)),
		tree(a, agg("sum", 1)), tree(a, with(agg("sum", 0), func(n *api.Node) { n.B = 0 })), tree(a, b, with(agg("sum", 0), func(n *api.Node) { n.B = 1 })), tree(a, with(agg("sum", 0), func(n *api.Node) { n.B = -2 })), tree(agg("sum", 0)), tree(agg("sum", -1)), tree(a, b, agg("sum", 1)),
		// What a sign, an operator, a word can not have.
		tree(a, b, bin(0, 0, 1)), tree(a, b, bin(16, 0, 1)), tree(a, b, bin(-1, 0, 1)), tree(a, b, bin(math.MaxInt, 0, 1)),
		tree(a, b, with(bin(api.OAdd, 0, 1), func(n *api.Node) { n.Flag = true })), tree(a, b, with(bin(api.OAnd, 0, 1), func(n *api.Node) { n.Flag = true })), tree(a, b, with(bin(api.OAdd, 0, 1), func(n *api.Node) { n.Match.Card = api.ManyToMany })), tree(a, b, with(bin(api.OAnd, 0, 1), func(n *api.Node) { n.Match.Card = 0 })), tree(a, b, with(bin(api.OAnd, 0, 1), func(n *api.Node) { n.Match.Card = api.ManyToOne })), tree(a, b, with(bin(api.OAdd, 0, 1), func(n *api.Node) { n.Match.Card = 4 })), tree(a, b, with(bin(api.OAdd, 0, 1), func(n *api.Node) { n.Match.Card = -1 })), tree(a, b, with(bin(api.OAdd, 0, 1), func(n *api.Node) { n.Match.Include = []string{"x"} })), tree(a, b, with(bin(api.OAnd, 0, 1), func(n *api.Node) { n.Match.Include = []string{"x"} })),
		tree(a, b, with(bin(api.OAdd, 0, 1), func(n *api.Node) { n.Match.Labels = []string{""} })), tree(a, b, with(bin(api.OAdd, 0, 1), func(n *api.Node) { n.Match.Labels = []string{"a:b"} })), tree(a, b, with(bin(api.OAdd, 0, 1), func(n *api.Node) { n.Match.Labels = []string{"x, y"} })), tree(a, b, with(bin(api.OAdd, 0, 1), func(n *api.Node) { n.Match.Labels = []string{"x) group_left (y"} })), tree(a, b, with(bin(api.OAdd, 0, 1), func(n *api.Node) { n.Match.Labels = []string{rep("n", 65)} })),
		tree(a, agg("rate", 0)), tree(a, agg("", 0)), tree(a, agg("SUM", 0)), tree(a, agg("sum by (x)", 0)), tree(a, agg("sum", 0, "a-b")), tree(a, agg("sum", 0, "")), tree(a, agg("sum", 0, "x,")), tree(a, with(agg("sum", 0), func(n *api.Node) { n.Op = 1 })),
		tree(a, call("sum", 0)), tree(a, call("", 0)), tree(a, call("a b", 0)), tree(a, call("and", 0)), tree(a, call("1", 0)), tree(a, call("f ", 0)), tree(a, call("-f", 0)), tree(a, call("é", 0)), tree(call("by")), tree(call("f#")),
		tree(bin(api.OAdd, 0, 0)), tree(a, b, bin(api.OMul, 0, 1), b, bin(api.OPow, 2, 3)), tree(a, b, bin(api.OAdd, 0, 1), b, bin(api.OMul, 2, 3)), tree(a, b, b, bin(api.OAdd, 1, 2), bin(api.OAdd, 0, 3)), tree(a, neg(0), b, bin(api.OPow, 1, 2)), tree(a, b, bin(api.OAdd, 0, 1), neg(2)), tree(a, b, bin(api.OMul, 0, 1), neg(2)), tree(a, b, bin(api.OPow, 0, 1), b, bin(api.OPow, 2, 3)),
		// Matchers and durations that can not be.
		tree(sel(api.Matcher{Op: 0, Name: "a"})), tree(sel(api.Matcher{Op: 5, Name: "a"})), tree(sel(api.Matcher{Op: -1, Name: "a"})), tree(sel(api.Matcher{Op: 1})), tree(sel(api.Matcher{Op: 1, Name: "a:b"})), tree(sel(api.Matcher{Op: 1, Name: rep("n", 65)})), tree(sel(api.Matcher{Op: 1, Name: "a", Value: "\xff"})), tree(sel(called("\xff"))), tree(sel(api.Matcher{Op: 1, Name: `a="b",c`, Value: "d"})),
		tree(with(a, func(n *api.Node) { n.Range = -1 })), tree(with(a, func(n *api.Node) { n.Range = 1<<40 + 1 })), tree(with(a, func(n *api.Node) { n.Range = math.MinInt64 })), tree(with(a, func(n *api.Node) { n.Offset = -1 })), tree(with(a, func(n *api.Node) { n.Offset = 1<<40 + 1 })), tree(with(a, func(n *api.Node) { n.Offset = math.MaxInt64 })),
		// What a node has not.
		tree(with(a, func(n *api.Node) { n.Op = 1 })), tree(with(a, func(n *api.Node) { n.A = 1 })), tree(with(a, func(n *api.Node) { n.B = -1 })), tree(with(a, func(n *api.Node) { n.Num = 1 })), tree(with(a, func(n *api.Node) { n.Num = math.Copysign(0, -1) })), tree(with(a, func(n *api.Node) { n.Text = "a" })), tree(with(a, func(n *api.Node) { n.Flag = true })), tree(with(a, func(n *api.Node) { n.Match.On = true })), tree(with(a, func(n *api.Node) { n.Match.Card = 1 })), tree(with(a, func(n *api.Node) { n.Match.Labels = []string{""} })), tree(with(a, func(n *api.Node) { n.Match.Include = []string{"x"} })), tree(with(a, func(n *api.Node) { n.By = []string{"x"} })), tree(with(a, func(n *api.Node) { n.Args = []int{0} })), tree(with(num(1), func(n *api.Node) { n.Range = 1 })), tree(with(num(1), func(n *api.Node) { n.Offset = 1 })), tree(with(num(1), func(n *api.Node) { n.Matchers = []api.Matcher{{}} })), tree(with(str(""), func(n *api.Node) { n.B = 1 })), tree(a, with(paren(0), func(n *api.Node) { n.B = -1 })), tree(a, with(neg(0), func(n *api.Node) { n.Text = "-" })), tree(with(call("time"), func(n *api.Node) { n.A = 1 })), tree(with(call("time"), func(n *api.Node) { n.B = -1 })),
	} {
		if s, e := Print(x); s != "" || e != api.ErrForm {
			t.Errorf("%d: Print: %.50q, %d", i, s, e)
		}
		if e := Right(x); e != api.ErrForm {
			t.Errorf("%d: Right: %d", i, e)
		}
		if k, e, at := Check(x); k != 0 || e != api.ErrForm || at != 0 {
			t.Errorf("%d: Check: %d, %d, %d", i, k, e, at)
		}
		checkRight(t, x)
	}
}

// chain: n nodes (an odd number), with operators between names.
func chain(n int) api.Tree {
	l := []api.Node{metric("a")}
	for len(l) < n {
		l = append(l, metric("a"))
		l = append(l, bin(api.OAdd, len(l)-2, len(l)-1))
	}
	return tree(l...)
}

func TestP14_2_Limits(t *testing.T) {
	nest := func(n int, one func(int) api.Node) api.Tree {
		l := []api.Node{metric("a")}
		for i := range n {
			l = append(l, one(i))
		}
		return tree(l...)
	}
	thousand := must(t, "-a"+rep(" + a", 499))
	if len(thousand.Nodes) != 1000 {
		t.Fatal(len(thousand.Nodes))
	}
	for _, c := range []struct {
		x api.Tree
		e api.Errno
	}{
		{nest(50, paren), api.OK}, {nest(51, paren), api.ErrForm}, {nest(50, neg), api.OK}, {nest(51, neg), api.ErrForm}, {nest(999, paren), api.ErrForm}, {nest(100000, neg), api.ErrForm},
		{chain(999), api.OK}, {thousand, api.OK}, {chain(1001), api.ErrForm}, {chain(100001), api.ErrForm},
		{tree(str(rep("a", 65534))), api.OK}, {tree(str(rep("a", 65535))), api.ErrForm}, {tree(str(rep("\n", 32767))), api.OK}, {tree(str(rep("\n", 32767) + "a")), api.ErrForm}, {tree(metric(rep("a", 65536))), api.OK}, {tree(metric(rep("a", 65537))), api.ErrForm}, {tree(str(rep("a", 10000000))), api.ErrForm}, {tree(call(rep("f", 65534))), api.OK}, {tree(call(rep("f", 65535))), api.ErrForm},
	} {
		if s, e := Print(c.x); e != c.e || (s == "") != (e != api.OK) {
			t.Error(len(c.x.Nodes), e, c.e, len(s))
		}
		if e := Right(c.x); e != c.e {
			t.Error(len(c.x.Nodes), e)
		}
	}
	// A name or a text may be as long as it can, though no matcher may.
	if _, e, at := Check(tree(metric(rep("a", 257)))); e != api.ErrSize || at != 0 {
		t.Error(e, at)
	}
	// What is written would have more tokens than can be.
	s := "a" + rep("+on(x)group_left a", 400) + "+on(" + rep("x,", 300) + ")group_left a"
	x := must(t, s)
	if _, e := Print(x); e != api.ErrForm {
		t.Error(e)
	}
	if _, e, _ := Check(x); e != api.ErrForm {
		t.Error(e)
	}
}

// changes: of a node, one at a time.
func changes(r *rand.Rand, n *api.Node, size int) {
	number := func() int { return pick(r, -2, -1, 0, 1, 2, r.Intn(size+1), math.MaxInt, math.MinInt) }
	word := func() string { return pick(r, "", "a", "sum", "and", "Inf", "x, y", "\xff", "rate", "a:b") }
	list := func(l []string) []string {
		l = slices.Clone(l)
		if len(l) == 0 || r.Intn(2) == 0 {
			return append(l, word())
		}
		if r.Intn(2) == 0 {
			return l[1:]
		}
		l[r.Intn(len(l))] = word()
		return l
	}
	switch r.Intn(14) {
	case 0:
		n.Kind = pick(r, 0, 1, 2, 3, 4, 5, 6, 7, 8, 9, -1)
	case 1:
		n.Op = pick(r, -1, 0, 1, 2, 3, 6, 7, 13, 15, 16)
	case 2:
		n.A = number()
	case 3:
		n.B = number()
	case 4:
		n.Num = pick(r, append(someNumbers, -1, math.Copysign(0, -1), math.Inf(-1), math.NaN())...)
	case 5:
		n.Text = word()
	case 6:
		n.Flag = !n.Flag
	case 7:
		n.Match.Card = pick(r, -1, 0, 1, 2, 3, 4)
	case 8:
		n.Match.On = !n.Match.On
	case 9:
		n.Match.Labels = list(n.Match.Labels)
	case 10:
		n.Match.Include = list(n.Match.Include)
	case 11:
		n.By = list(n.By)
	case 12:
		n.Args = slices.Clone(n.Args)
		if len(n.Args) == 0 || r.Intn(3) == 0 {
			n.Args = append(n.Args, number())
		} else {
			n.Args[r.Intn(len(n.Args))] = number()
		}
	case 13:
		n.Matchers = slices.Clone(n.Matchers)
		if len(n.Matchers) == 0 || r.Intn(3) == 0 {
			n.Matchers = append(n.Matchers, api.Matcher{Op: r.Intn(6), Name: pick(r, "a", "__name__", "", "a:b"), Value: word()})
		} else {
			n.Matchers[r.Intn(len(n.Matchers))].Value = word()
		}
		n.Range = pick(r, n.Range, n.Range, 0, -1, 1, 1<<40, 1<<40+1)
		n.Offset = pick(r, n.Offset, n.Offset, 0, -1, 1, 1<<40, 1<<40+1)
	}
}

func TestP14_2_AlmostTrees(t *testing.T) {
	r := rand.New(rand.NewSource(2))
	wrong := 0
	for range 8000 {
		x := anyTree(r, 1+r.Intn(6), r.Intn(2) == 0)
		switch r.Intn(8) {
		case 0:
			at := r.Intn(len(x.Nodes))
			x.Nodes = slices.Delete(x.Nodes, at, at+1)
		case 1:
			x.Nodes = slices.Insert(x.Nodes, r.Intn(len(x.Nodes)+1), metric("z"))
		case 2:
			i, j := r.Intn(len(x.Nodes)), r.Intn(len(x.Nodes))
			x.Nodes[i], x.Nodes[j] = x.Nodes[j], x.Nodes[i]
		default:
			changes(r, &x.Nodes[r.Intn(len(x.Nodes))], len(x.Nodes))
		}
		checkRight(t, x)
		if Right(x) != api.OK {
			wrong++
		}
	}
	if wrong < 2500 || wrong > 7700 {
		t.Error(wrong)
	}
}

func TestP14_4_AsItWasWritten(t *testing.T) {
	r := rand.New(rand.NewSource(4))
	for range 6000 {
		x := anyTree(r, 1+r.Intn(25), r.Intn(2) == 0)
		s, e := Print(x)
		if e != api.OK {
			if _, e, _ := Parse(modelText(x.Nodes, len(x.Nodes)-1)); e != api.ErrDeep {
				t.Fatal(x, e)
			}
			continue
		}
		if want := modelText(x.Nodes, len(x.Nodes)-1); s != want {
			t.Fatal(s, want)
		}
		again, e, at := Parse(s)
		if e != api.OK || at != 0 || !Same(again, x) || !modelSame(again, x) || Right(again) != api.OK {
			t.Fatal(s, again, e, at)
		}
	}
}

func TestP14_3_Op(t *testing.T) {
	for op := -3; op < 20; op++ {
		want := ""
		if op > 0 && op < len(modelOps) {
			want = modelOps[op]
		}
		if Op(op) != want {
			t.Error(op, Op(op))
		}
	}
	for _, op := range []int{math.MinInt, math.MaxInt, 1 << 32, 1<<32 + 1} {
		if Op(op) != "" {
			t.Error(op)
		}
	}
}

func TestP14_3_Same(t *testing.T) {
	// A node with all that there is; then each field of it another one.
	full := func() api.Node {
		return api.Node{Kind: 1, Op: 2, A: 3, B: 4, Num: 5, Text: "6", Flag: true, Match: api.Match{Card: 7, On: true, Labels: []string{"8", "9"}, Include: []string{"10"}}, By: []string{"11"}, Args: []int{12, 13}, Matchers: []api.Matcher{{Op: 14, Name: "15", Value: "16"}}, Range: 17, Offset: 18}
	}
	if v := reflect.ValueOf(full()); v.NumField() != 13 || v.FieldByName("Match").NumField() != 4 {
		t.Fatal("there are other fields")
	}
	changed := []func(*api.Node){
		func(n *api.Node) { n.Kind = 0 }, func(n *api.Node) { n.Op = 0 }, func(n *api.Node) { n.A = 0 }, func(n *api.Node) { n.B = 0 }, func(n *api.Node) { n.Num = 0 }, func(n *api.Node) { n.Text = "" }, func(n *api.Node) { n.Flag = false },
		func(n *api.Node) { n.Match.Card = 0 }, func(n *api.Node) { n.Match.On = false }, func(n *api.Node) { n.Match.Labels = nil }, func(n *api.Node) { n.Match.Labels = []string{"9", "8"} }, func(n *api.Node) { n.Match.Labels = []string{"8"} }, func(n *api.Node) { n.Match.Include = nil }, func(n *api.Node) { n.Match.Include = []string{"10", ""} },
		func(n *api.Node) { n.By = nil }, func(n *api.Node) { n.By = []string{"12"} }, func(n *api.Node) { n.Args = nil }, func(n *api.Node) { n.Args = []int{13, 12} }, func(n *api.Node) { n.Matchers = nil }, func(n *api.Node) { n.Matchers[0].Op = 0 }, func(n *api.Node) { n.Matchers[0].Name = "" }, func(n *api.Node) { n.Matchers[0].Value = "" }, func(n *api.Node) { n.Range = 0 }, func(n *api.Node) { n.Offset = 0 },
	}
	if !Same(tree(full()), tree(full())) || !Same(api.Tree{}, tree()) || Same(api.Tree{}, tree(full())) || Same(tree(full(), full()), tree(full())) {
		t.Error("Same")
	}
	for i, change := range changed {
		if a, b := tree(full(), full()), tree(full(), with(full(), change)); Same(a, b) || Same(b, a) || !Same(b, b) {
			t.Error(i)
		}
	}
	// Numbers are held against each other by their bits; no list is an empty one.
	for _, a := range []float64{0, math.Copysign(0, -1), nan, math.Float64frombits(0x7ff8000000000000), math.Float64frombits(0x7ff0000000000002), math.Inf(1), math.Inf(-1), 1} {
		for _, b := range []float64{0, math.Copysign(0, -1), nan, math.Float64frombits(0x7ff8000000000000), math.Float64frombits(0x7ff0000000000002), math.Inf(1), math.Inf(-1), 1} {
			if Same(tree(num(a)), tree(num(b))) != (math.Float64bits(a) == math.Float64bits(b)) {
				t.Error(a, b)
			}
		}
	}
	if !Same(tree(api.Node{}), tree(api.Node{By: []string{}, Args: []int{}, Matchers: []api.Matcher{}, Match: api.Match{Labels: []string{}, Include: []string{}}})) {
		t.Error("empty lists")
	}
}

// What is handed in stays as it is, and writing into it later changes nothing.
func TestP14_2_TreesStay(t *testing.T) {
	r := rand.New(rand.NewSource(8))
	for range 1000 {
		x := anyTree(r, 1+r.Intn(8), true)
		if r.Intn(2) == 0 {
			changes(r, &x.Nodes[r.Intn(len(x.Nodes))], len(x.Nodes))
		}
		kept := api.Tree{Nodes: slices.Clone(x.Nodes)}
		for i := range kept.Nodes {
			n := &kept.Nodes[i]
			n.By, n.Args, n.Matchers = slices.Clone(n.By), slices.Clone(n.Args), slices.Clone(n.Matchers)
			n.Match.Labels, n.Match.Include = slices.Clone(n.Match.Labels), slices.Clone(n.Match.Include)
		}
		Right(x)
		s, e := Print(x)
		k, ce, at := Check(x)
		Same(x, kept)
		if !modelSame(x, kept) {
			t.Fatal(x, kept)
		}
		if s2, e2 := Print(kept); s2 != s || e2 != e {
			t.Fatal(s, s2)
		}
		if k2, ce2, at2 := Check(kept); k2 != k || ce2 != ce || at2 != at {
			t.Fatal(k, k2)
		}
	}
}
