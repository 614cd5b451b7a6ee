package parse

import (
	"math"
	"math/rand"
	"slices"
	"strings"
	"testing"

	"tocsin/api"
	"tocsin/lex"
)

func rep(s string, n int) string { return strings.Repeat(s, n) }

// nan is the NaN.
var nan = math.Float64frombits(0x7ff8000000000001)

func num(v float64) api.Node { return api.Node{Kind: api.NNumber, Num: v} }
func str(s string) api.Node  { return api.Node{Kind: api.NString, Text: s} }
func neg(a int) api.Node     { return api.Node{Kind: api.NNeg, A: a} }
func paren(a int) api.Node   { return api.Node{Kind: api.NParen, A: a} }
func sel(l ...api.Matcher) api.Node {
	return api.Node{Kind: api.NSelect, Matchers: l}
}
func called(s string) api.Matcher { return api.Matcher{Op: api.MEq, Name: "__name__", Value: s} }
func metric(s string) api.Node    { return sel(called(s)) }
func bin(op, a, b int) api.Node {
	n := api.Node{Kind: api.NBinary, Op: op, A: a, B: b}
	if op >= api.OAnd {
		n.Match.Card = api.ManyToMany
	}
	return n
}
func agg(word string, a int, by ...string) api.Node {
	return api.Node{Kind: api.NAggr, Text: word, A: a, B: -1, By: by}
}
func call(word string, args ...int) api.Node {
	return api.Node{Kind: api.NCall, Text: word, Args: args}
}
func tree(l ...api.Node) api.Tree { return api.Tree{Nodes: l} }

// with: the node, changed.
func with(n api.Node, change func(*api.Node)) api.Node {
	change(&n)
	return n
}

// must: the tree of a text that is an expression.
func must(t *testing.T, s string) api.Tree {
	t.Helper()
	x, e, at := Parse(s)
	if e != api.OK || at != 0 {
		t.Fatalf("Parse(%.200q): %d, %d", s, e, at)
	}
	return x
}

// checkParse holds Parse against the model, and what it answers against what follows.
func checkParse(t *testing.T, s string) {
	t.Helper()
	x, e, at := Parse(s)
	want, we, wat := modelParse(s)
	if e != we || at != wat || !modelSame(x, want) {
		t.Fatalf("Parse(%.300q): %+v, %d, %d, not %+v, %d, %d", s, x, e, at, want, we, wat)
	}
	if e != api.OK {
		if x.Nodes != nil {
			t.Fatalf("Parse(%.300q): beside an error %v", s, x)
		}
		return
	}
	text, e := Print(x)
	if wtext, we := modelPrint(x); text != wtext || e != we || Right(x) != e {
		t.Fatalf("Print(%.300q): %q, %d, not %q, %d", s, text, e, wtext, we)
	}
	if e == api.OK {
		if again, e, at := Parse(text); e != api.OK || at != 0 || !modelSame(again, x) {
			t.Fatalf("Parse(Print(%.300q)): %v, %d, %d", s, again, e, at)
		}
	}
	checkCheck(t, x)
}

func checkCheck(t *testing.T, x api.Tree) {
	t.Helper()
	k, e, at := Check(x)
	if wk, we, wat := modelCheck(x); k != wk || e != we || at != wat {
		s, _ := Print(x)
		t.Fatalf("Check(%s): %d, %d, %d, not %d, %d, %d", s, k, e, at, wk, we, wat)
	}
}

func TestExamples(t *testing.T) {
	var kinds []int
	for _, n := range must(t, `rate(x{a="1"}[5m] offset 1h) > bool 2`).Nodes {
		kinds = append(kinds, n.Kind)
	}
	if !slices.Equal(kinds, []int{api.NSelect, api.NCall, api.NNumber, api.NBinary}) {
		t.Error(kinds)
	}
	for s, want := range map[string]api.Tree{
		"-2 ^ 2":    tree(num(2), num(2), bin(api.OPow, 0, 1), neg(2)),
		"a - b - c": tree(metric("a"), metric("b"), bin(api.OSub, 0, 1), metric("c"), bin(api.OSub, 2, 3)),
	} {
		if x := must(t, s); !modelSame(x, want) {
			t.Error(s, x)
		}
	}
	if s, e := Print(must(t, "sum(x) by (a)")); s != "sum by (a) (x)" || e != api.OK {
		t.Error(s, e)
	}
	for s, want := range map[string]int{"": 0, "a +": 3, "a[5m][5m]": 5, "and": 0, "a + bool b": 4} {
		if x, e, at := Parse(s); x.Nodes != nil || e != api.ErrSyntax || at != want {
			t.Error(s, x, e, at)
		}
	}
	for s, want := range map[string][2]int{"1 > 2": {int(api.ErrType), 2}, `{a=""}`: {int(api.ErrType), 0}, "foo(1)": {int(api.ErrOp), 1}, "x + y[1m]": {int(api.ErrType), 2}} {
		if k, e, at := Check(must(t, s)); k != 0 || int(e) != want[0] || at != want[1] {
			t.Error(s, k, e, at)
		}
	}
}

func TestP14_1_EachForm(t *testing.T) {
	b := api.Matcher{Op: api.MNe, Name: "b", Value: "1"}
	for s, want := range map[string]api.Tree{
		"1":                                  tree(num(1)),
		"0x1F":                               tree(num(31)),
		"1e999":                              tree(num(math.Inf(1))),
		"Inf":                                tree(num(math.Inf(1))),
		"inf":                                tree(num(math.Inf(1))),
		"NaN":                                tree(num(nan)),
		"nan":                                tree(num(nan)),
		"INF":                                tree(metric("INF")),
		"Nan":                                tree(metric("Nan")),
		"Inf()":                              tree(call("Inf")),
		"nan(1)":                             tree(num(1), call("nan", 0)),
		"Inf (1)":                            tree(num(1), call("Inf", 0)),
		`"a\n"`:                              tree(str("a\n")),
		"'and'":                              tree(str("and")),
		"(1)":                                tree(num(1), paren(0)),
		"((a))":                              tree(metric("a"), paren(0), paren(1)),
		"a":                                  tree(metric("a")),
		"a:b":                                tree(metric("a:b")),
		"sum":                                tree(metric("sum")),
		"rate":                               tree(metric("rate")),
		"count":                              tree(metric("count")),
		"bool_":                              tree(metric("bool_")),
		"And":                                tree(metric("And")),
		"{}":                                 tree(sel()),
		"a{}":                                tree(metric("a")),
		`a{b!="1"}`:                          tree(sel(called("a"), b)),
		`{b!="1",}`:                          tree(sel(b)),
		`{b!="1",b!='1'}`:                    tree(sel(b, b)),
		`{__name__="a"}`:                     tree(metric("a")),
		`{__name__="a",__name__!~"b"}`:       tree(sel(called("a"), api.Matcher{Op: api.MNre, Name: "__name__", Value: "b"})),
		`{b!="1",__name__=~"a"}`:             tree(sel(b, api.Matcher{Op: api.MRe, Name: "__name__", Value: "a"})),
		`{and="",on="",Inf="",sum="",by=""}`: tree(sel(api.Matcher{Op: 1, Name: "and"}, api.Matcher{Op: 1, Name: "on"}, api.Matcher{Op: 1, Name: "Inf"}, api.Matcher{Op: 1, Name: "sum"}, api.Matcher{Op: 1, Name: "by"})),
		"sum{}":                              tree(metric("sum")),
		"a[5m]":                              tree(with(metric("a"), func(n *api.Node) { n.Range = 300000 })),
		"a[1ms]":                             tree(with(metric("a"), func(n *api.Node) { n.Range = 1 })),
		"{}[34y45w19h53m47s776ms]":           tree(with(sel(), func(n *api.Node) { n.Range = 1 << 40 })),
		"a offset 1h":                        tree(with(metric("a"), func(n *api.Node) { n.Offset = 3600000 })),
		"a offset 0s":                        tree(metric("a")),
		"a[5m] offset 1h":                    tree(with(metric("a"), func(n *api.Node) { n.Range, n.Offset = 300000, 3600000 })),
		"-a":                                 tree(metric("a"), neg(0)),
		"+a":                                 tree(metric("a")),
		"-1":                                 tree(num(1), neg(0)),
		"--1":                                tree(num(1), neg(0), neg(1)),
		"+-+1":                               tree(num(1), neg(0)),
		`-"a"`:                               tree(str("a"), neg(0)),
		"1 + 2":                              tree(num(1), num(2), bin(api.OAdd, 0, 1)),
		"a and b":                            tree(metric("a"), metric("b"), bin(api.OAnd, 0, 1)),
		"a == bool b":                        tree(metric("a"), metric("b"), with(bin(api.OEq, 0, 1), func(n *api.Node) { n.Flag = true })),
		"a + on() b":                         tree(metric("a"), metric("b"), with(bin(api.OAdd, 0, 1), func(n *api.Node) { n.Match.On = true })),
		"a + ignoring() b":                   tree(metric("a"), metric("b"), bin(api.OAdd, 0, 1)),
		"a ^ on(x,y,) b":                     tree(metric("a"), metric("b"), with(bin(api.OPow, 0, 1), func(n *api.Node) { n.Match = api.Match{On: true, Labels: []string{"x", "y"}} })),
		"a or ignoring(x) b":                 tree(metric("a"), metric("b"), with(bin(api.OOr, 0, 1), func(n *api.Node) { n.Match.Labels = []string{"x"} })),
		"a * on(x) group_left b":             tree(metric("a"), metric("b"), with(bin(api.OMul, 0, 1), func(n *api.Node) { n.Match = api.Match{Card: api.ManyToOne, On: true, Labels: []string{"x"}} })),
		"a * on(x) group_left() b":           tree(metric("a"), metric("b"), with(bin(api.OMul, 0, 1), func(n *api.Node) { n.Match = api.Match{Card: api.ManyToOne, On: true, Labels: []string{"x"}} })),
		"a <= bool ignoring() group_right(y, z,) b": tree(metric("a"), metric("b"), with(bin(api.OLe, 0, 1), func(n *api.Node) {
			n.Flag = true
			n.Match = api.Match{Card: api.OneToMany, Include: []string{"y", "z"}}
		})),
		"a * on(x) group_left(b)(c)": tree(metric("a"), metric("c"), paren(1), with(bin(api.OMul, 0, 2), func(n *api.Node) {
			n.Match = api.Match{Card: api.ManyToOne, On: true, Labels: []string{"x"}, Include: []string{"b"}}
		})),
		"a > bool (b)":               tree(metric("a"), metric("b"), paren(1), with(bin(api.OGt, 0, 2), func(n *api.Node) { n.Flag = true })),
		"sum(a)":                     tree(metric("a"), agg("sum", 0)),
		"sum by (x) (a)":             tree(metric("a"), agg("sum", 0, "x")),
		"sum(a)by(x,y)":              tree(metric("a"), agg("sum", 0, "x", "y")),
		"sum by () (a)":              tree(metric("a"), agg("sum", 0)),
		"sum(a) by (x,)":             tree(metric("a"), agg("sum", 0, "x")),
		"avg without (x) (a)":        tree(metric("a"), with(agg("avg", 0, "x"), func(n *api.Node) { n.Flag = true })),
		"avg(a) without ()":          tree(metric("a"), with(agg("avg", 0), func(n *api.Node) { n.Flag = true })),
		"topk(3, a)":                 tree(num(3), metric("a"), with(agg("topk", 1), func(n *api.Node) { n.B = 0 })),
		"sum(-1, a + b) by (by, on)": tree(num(1), neg(0), metric("a"), metric("b"), bin(api.OAdd, 2, 3), with(agg("sum", 4, "by", "on"), func(n *api.Node) { n.B = 1 })),
		"time()":                     tree(call("time")),
		"foo(1, a, \"b\")":           tree(num(1), metric("a"), str("b"), call("foo", 0, 1, 2)),
		"a:b(c)":                     tree(metric("c"), call("a:b", 0)),
		"sum(sum) by (sum)":          tree(metric("sum"), agg("sum", 0, "sum")),
		"sum + sum(sum)":             tree(metric("sum"), metric("sum"), agg("sum", 1), bin(api.OAdd, 0, 2)),
	} {
		x, e, at := Parse(s)
		if e != api.OK || at != 0 || !modelSame(x, want) {
			t.Errorf("%s: %+v, %d, %d", s, x, e, at)
		}
		checkParse(t, s)
	}
	for _, word := range modelAggregations {
		for s, want := range map[string]api.Tree{word: tree(metric(word)), word + "(a)": tree(metric("a"), agg(word, 0)), word + " by(b)(a)": tree(metric("a"), agg(word, 0, "b")), word + " + a": tree(metric(word), metric("a"), bin(api.OAdd, 0, 1))} {
			if x := must(t, s); !modelSame(x, want) {
				t.Error(s, x)
			}
			checkParse(t, s)
		}
	}
}

// full: the text of a tree with parentheses about each operator's sides.
func full(l []api.Node, i int) string {
	switch n := l[i]; n.Kind {
	case api.NBinary:
		return "(" + full(l, n.A) + modelOps[n.Op] + full(l, n.B) + ")"
	case api.NNeg:
		return "(-" + full(l, n.A) + ")"
	}
	return modelText(l, i)
}

func TestP14_1_Binding(t *testing.T) {
	for s, want := range map[string]string{
		"a or b and c":              "(aor(bandc))",
		"a and b or c":              "((aandb)orc)",
		"a unless b and c unless d": "(((aunlessb)andc)unlessd)",
		"a or b or c":               "((aorb)orc)",
		"a == b == c":               "((a==b)==c)",
		"a == b and c != d":         "((a==b)and(c!=d))",
		"a > b + c":                 "(a>(b+c))",
		"a + b > c":                 "((a+b)>c)",
		"a < b >= c <= d":           "(((a<b)>=c)<=d)",
		"a + b * c":                 "(a+(b*c))",
		"a * b + c":                 "((a*b)+c)",
		"a - b + c - d":             "(((a-b)+c)-d)",
		"a * b / c % d":             "(((a*b)/c)%d)",
		"a ^ b ^ c":                 "(a^(b^c))",
		"a * b ^ c":                 "(a*(b^c))",
		"a ^ b * c":                 "((a^b)*c)",
		"-a ^ b":                    "(-(a^b))",
		"-a * b":                    "((-a)*b)",
		"-a + b":                    "((-a)+b)",
		"a * -b":                    "(a*(-b))",
		"a * -b * c":                "((a*(-b))*c)",
		"a - -b":                    "(a-(-b))",
		"a ^ -b":                    "(a^(-b))",
		"a ^ -b ^ c":                "(a^(-(b^c)))",
		"a ^ -b * c":                "((a^(-b))*c)",
		"a ^ - - b ^ c + d":         "((a^(-(-(b^c))))+d)",
		"- -a ^ b * c":              "((-(-(a^b)))*c)",
		"a + +b ^ +c":               "(a+(b^c))",
		"a + b - c * d / e % f ^ g ^ -h > i and j or k unless l": "(((((a+b)-(((c*d)/e)%(f^(g^(-h)))))>i)andj)or(kunlessl))",
	} {
		x := must(t, s)
		if got := full(x.Nodes, len(x.Nodes)-1); got != want {
			t.Error(s, got, want)
		}
		checkParse(t, s)
	}
	// Each two operators, with and without signs: all bind as the list says.
	for a := 1; a < len(modelOps); a++ {
		for b := 1; b < len(modelOps); b++ {
			x := must(t, "x "+modelOps[a]+" y "+modelOps[b]+" z")
			left := level(a) > level(b) || level(a) == level(b) && a != api.OPow
			want := "(x" + modelOps[a] + "(y" + modelOps[b] + "z))"
			if left {
				want = "((x" + modelOps[a] + "y)" + modelOps[b] + "z)"
			}
			if got := full(x.Nodes, len(x.Nodes)-1); got != want {
				t.Error(got, want)
			}
			for c := 1; c < len(modelOps); c++ {
				sign := []string{"", "-", "+ -"}[(a+b+c)%3]
				checkParse(t, sign+"w "+modelOps[a]+" "+sign+"x "+modelOps[b]+" y "+modelOps[c]+" "+sign+"z")
			}
		}
	}
}

func TestP14_1_FirstToken(t *testing.T) {
	for _, c := range []struct {
		s  string
		at int
	}{
		{"", 0}, {" ", 1}, {"# x", 3}, {"a b", 2}, {"a 1", 2}, {"1 2", 2}, {"1 a", 2}, {`"a" "b"`, 4}, {"a(b", 3}, {"(", 1}, {"()", 1}, {"(a", 2}, {"(a))", 3}, {")", 0}, {"a)", 1}, {"a,b", 1}, {"(a,b)", 2}, {",", 0},
		{"a +", 3}, {"a + ", 4}, {"+", 1}, {"-", 1}, {"* a", 0}, {"a * * b", 4}, {"a + / b", 4}, {"a ^ ^ b", 4}, {"a == == b", 5}, {"a = b", 2}, {"a =~ b", 2}, {"a !~ b", 2}, {"a == ", 5}, {"(a +)", 4}, {"a + )", 4},
		{"5m", 0}, {"a + 5m", 4}, {"(5m)", 1}, {"-5m", 1}, {"f(5m)", 2}, {"a 5m", 2},
		{"[5m]", 0}, {"1[5m]", 1}, {`"a"[5m]`, 3}, {"(a)[5m]", 3}, {"f(a)[5m]", 4}, {"sum(a)[5m]", 6}, {"Inf[5m]", 3}, {"a[]", 2}, {"a[5]", 2}, {"a[5m", 4}, {"a[a]", 2}, {"a[5m 5m]", 5}, {"a[-5m]", 2}, {"a['5m']", 2}, {"a[5m][5m]", 5}, {"a[5m]{}", 5}, {"a[5m)", 4},
		{"a[0s]", 2}, {"a[0y0ms]", 2}, {"a [ 00m ]", 4}, {"a[0s", 2},
		{"offset", 0}, {"a offset", 8}, {"a offset 5", 9}, {"a offset -5m", 9}, {"a offset b", 9}, {"a offset 5m offset 5m", 12}, {"a offset 5m[5m]", 11}, {"(a) offset 5m", 4}, {"1 offset 5m", 2}, {"f(a) offset 5m", 5}, {"sum(a) offset 5m", 7}, {"a offset (5m)", 9}, {"a offset 5m 5m", 12}, {"a offset offset", 9}, {"Inf offset 5m", 4},
		{"{", 1}, {"{}}", 2}, {"{,}", 1}, {"{a}", 2}, {"{a=}", 3}, {"{a=1}", 3}, {"{a=b}", 3}, {`{a="b"`, 6}, {`{a="b",,}`, 7}, {`{a="b" c="d"}`, 7}, {`{a=="b"}`, 2}, {`{a>"b"}`, 2}, {`{a "b"}`, 3}, {`{"a"="b"}`, 1}, {`{1="b"}`, 1}, {`{a:b="c"}`, 1}, {`{:="c"}`, 1}, {`{a="b"}{c="d"}`, 7}, {"a{}{}", 3}, {"{a='1'}a", 7}, {`{a="b",`, 7}, {"{a", 2}, {"{a=", 3}, {"{a,b}", 2}, {`{a="b"),`, 6},
		{"{" + rep("n", 65) + `="x"}`, 1}, {`a{__name__="b"}`, 2}, {`a{b="c",__name__="d"}`, 8}, {`a{__name__`, 2}, {`a{b="c", __name__!="d",}`, 9},
		{"Inf{}", 3}, {"NaN{a='b'}", 3}, {"inf{", 3}, {"1{}", 1}, {`"a"{}`, 3}, {"f(){}", 3},
		{"a + bool b", 4}, {"a and bool b", 6}, {"a ^ bool b", 4}, {"a == bool bool b", 10}, {"a == bool", 9}, {"a == on(x) bool b", 11}, {"bool", 0}, {"bool a", 0}, {"a bool", 2}, {"a > bool", 8},
		{"on(x)", 0}, {"a on(x) b", 2}, {"a + on b", 7}, {"a + on", 6}, {"a + on(", 7}, {"a + on(x", 8}, {"a + on(x)", 9}, {"a + on(x,,) b", 9}, {"a + on(,) b", 7}, {"a + on(x y) b", 9}, {"a + on(1) b", 7}, {"a + on('x') b", 7}, {"a + on(a:b) b", 7}, {"a + on(" + rep("n", 65) + ") b", 7}, {"a + on((x)) b", 7}, {"a + on(x) on(y) b", 10}, {"a + on(x) ignoring(y) b", 10}, {"a + ignoring b", 13}, {"a + ignoring(x) on(y) b", 16}, {"-on(x)a", 1},
		{"a * group_left b", 4}, {"a * group_left(x) b", 4}, {"a * group_right b", 4}, {"a and on(x) group_left b", 12}, {"a or on(x) group_right() b", 11}, {"a unless ignoring(x) group_left b", 21}, {"a * on(x) group_left group_right b", 21}, {"a*on(x)group_left(b)", 20}, {"a*on(x)group_left", 17}, {"a * on(x) group_left(b + c)", 23}, {"a * on(x) group_left(b)(c) d", 27}, {"a * on(x) group_left('b') c", 21}, {"a * on(x) group_left(b) group_left c", 24}, {"a == bool group_left b", 10}, {"a * on(x) group_left(1)", 21}, {"a * on(x) group_left ((b))", 22},
		{"sum()", 4}, {"sum(", 4}, {"sum(a", 5}, {"sum(a,", 6}, {"sum(a,)", 6}, {"sum(a,b,c)", 7}, {"sum(a b)", 6}, {"sum by (x)", 10}, {"sum by x (a)", 7}, {"sum by (x) a", 11}, {"sum by", 6}, {"sum by (", 8}, {"sum by (x) (a) by (y)", 15}, {"sum by (x) (a) without (y)", 15}, {"sum(a) by (x) by (y)", 14}, {"sum(a) by (x) (b)", 14}, {"sum(a) by x", 10}, {"sum(a) without", 14}, {"sum(a) by (1)", 11}, {"sum(a) by (a:b)", 11}, {"sum by (x) without (y) (a)", 11}, {"sum by (x) ()", 12}, {"by (x) (a)", 0}, {"without", 0}, {"f(a) by (x)", 5}, {"f by (x) (a)", 2}, {"a by (x)", 2}, {"(a) by (x)", 4}, {"sum(a)(b)", 6}, {"sum sum", 4}, {"sum 1", 4}, {"sum(a) offset 1m", 7}, {"sum by (x,,) (a)", 10},
		{"f(", 2}, {"f(a", 3}, {"f(a,)", 4}, {"f(,)", 2}, {"f(a,,b)", 4}, {"f(a b)", 4}, {"f(a)(b)", 4}, {"f()()", 3}, {"f(a))", 4}, {"f(a", 3}, {"f(a,", 4},
		{"and", 0}, {"a and", 5}, {"a and and b", 6}, {"and(a)", 0}, {"or(a)", 0}, {"unless{}", 0}, {"bool(a)", 0}, {"on(a)", 0}, {"ignoring(a)", 0}, {"group_left(a)", 0}, {"group_right(a)", 0}, {"by(a)", 0}, {"without(a)", 0}, {"offset(a)", 0},
	} {
		x, e, at := Parse(c.s)
		if x.Nodes != nil || e != api.ErrSyntax || at != c.at {
			t.Errorf("%q: %v, %d, %d, not %d", c.s, x, e, at, c.at)
		}
		checkParse(t, c.s)
	}
	// No reserved word stands where an operand may, whatever stands behind it.
	for _, word := range modelReserved {
		for _, behind := range []string{"", "(a)", "{}", "[5m]", " + a", " a", "(a) (b)"} {
			for _, ahead := range []string{"", "(", "-", "a + ", "f(", "sum(", "f(a, ", "a ^ "} {
				if word == "on" && strings.HasSuffix(ahead, "+ ") || word == "on" && strings.HasSuffix(ahead, "^ ") || word == "ignoring" {
					checkParse(t, ahead+word+behind)
					continue
				}
				if _, e, at := Parse(ahead + word + behind); e != api.ErrSyntax || at != len(ahead) {
					t.Errorf("%q: %d, %d", ahead+word+behind, e, at)
				}
				checkParse(t, ahead+word+behind)
			}
		}
	}
}

func TestP14_1_ErrorsOfTokens(t *testing.T) {
	for _, c := range []struct {
		s  string
		e  api.Errno
		at int
	}{
		{"!", api.ErrToken, 0}, {"a + + + ) !", api.ErrToken, 10}, {") 5mm", api.ErrToken, 2}, {"a + \"b", api.ErrToken, 4}, {"a[5m:1m]", api.ErrToken, 2}, {rep("a", 65537), api.ErrSize, 0}, {rep("!", 65537), api.ErrSize, 0},
		{"a" + rep("+a", 2047), api.ErrLarge, 0}, {"a" + rep("+a", 2048), api.ErrLarge, 0}, {rep(") ", 4096), api.ErrLarge, 0}, {rep(") ", 4095), api.ErrSyntax, 0},
	} {
		if x, e, at := Parse(c.s); x.Nodes != nil || e != c.e || at != c.at {
			t.Errorf("%.50q: %d, %d, not %d, %d", c.s, e, at, c.e, c.at)
		}
	}
}

func TestP14_1_Durations(t *testing.T) {
	for _, c := range []struct {
		s  string
		e  api.Errno
		at int
	}{
		{"a[1099511627776ms]", api.OK, 0}, {"a[1099511627777ms]", api.ErrLarge, 2}, {"a offset 1099511627776ms", api.OK, 0}, {"a offset 1099511627777ms", api.ErrLarge, 9}, {"a [ 35y ] offset 36y", api.ErrLarge, 4}, {"a[1m] offset 36y", api.ErrLarge, 13}, {"a[" + rep("9", 1000) + "y", api.ErrLarge, 2},
		// The first fault from the left.
		{"a[35y) + ", api.ErrLarge, 2}, {"a + ) b[35y]", api.ErrSyntax, 4}, {"b[35y] + )", api.ErrLarge, 2}, {"a[0s] + b[35y]", api.ErrSyntax, 2}, {"35y", api.ErrSyntax, 0}, {"a + 35y", api.ErrSyntax, 4}, {"a[35y] offset", api.ErrLarge, 2}, {"a{b[35y]", api.ErrSyntax, 3},
		{"a[35y] + " + rep("(", 51), api.ErrLarge, 2}, {rep("(", 51) + "a[35y]", api.ErrDeep, 50}, {rep("(", 50) + "a[35y]", api.ErrLarge, 52}, {rep("-", 50) + "a[35y]", api.ErrLarge, 52},
	} {
		if x, e, at := Parse(c.s); e != c.e || at != c.at || e != api.OK && x.Nodes != nil {
			t.Errorf("%.50q: %d, %d, not %d, %d", c.s, e, at, c.e, c.at)
		}
		checkParse(t, c.s)
	}
}

func TestP14_1_Deep(t *testing.T) {
	for _, c := range []struct {
		s  string
		at int // -1: it is not too deep
	}{
		{rep("(", 50) + "a" + rep(")", 50), -1}, {rep("(", 51) + "a" + rep(")", 51), 50},
		{rep("-", 50) + "a", -1}, {rep("-", 51) + "a", 50}, {rep("+", 50) + "a", -1}, {rep("+", 51) + "a", 50}, {rep("+-", 25) + "a", -1}, {rep("-+", 25) + "-a", 50},
		{rep("a^", 50) + "a", -1}, {rep("a^", 51) + "a", 101}, {rep("a ^ ", 50) + "a ^ a", 202},
		{rep("f(", 50) + rep(")", 50), -1}, {rep("f(", 51) + rep(")", 51), 101}, {rep("sum(", 50) + "a" + rep(")", 50), -1}, {rep("sum(", 51) + "a" + rep(")", 51), 203},
		{rep("-(", 25) + "a" + rep(")", 25), -1}, {rep("-(", 25) + "-a" + rep(")", 25), 50}, {rep("a^(", 25) + "a^a" + rep(")", 25), 76}, {rep("a^-", 25) + "a", -1}, {rep("a^-", 25) + "a^a", 76}, {rep("a^-", 25) + "-a", 75},
		// Those of names too.
		{rep("(", 49) + "a + on(b) c" + rep(")", 49), -1}, {rep("(", 50) + "a + on(b) c" + rep(")", 50), 56}, {rep("(", 49) + "a + on(b) group_left (x) c" + rep(")", 49), -1}, {rep("(", 49) + "a ^ on(b) c" + rep(")", 49), 55}, {rep("(", 49) + "sum by (b) (c)" + rep(")", 49), -1}, {rep("(", 50) + "sum by (b) (c)" + rep(")", 50), 57}, {rep("(", 49) + "sum(c) by (d)" + rep(")", 49), -1},
		// What has ended is not open any more.
		{rep("-a + ", 200) + "a", -1}, {rep("-a * ", 200) + "a", -1}, {rep("(a) + ", 200) + "a", -1}, {rep("a ^ b * ", 200) + "a", -1}, {"f(" + rep("-a, ", 200) + "a)", -1}, {"f(" + rep("a ^ -b, ", 100) + "a)", -1}, {rep("-a ^ -b and ", 60) + "a", -1}, {rep("(", 48) + rep("-a^b + ", 60) + "a" + rep(")", 48), -1}, {rep("(", 49) + "-a^b" + rep(")", 49), 51}, {rep("(", 49) + "a + -b + -c" + rep(")", 49), -1}, {rep("(", 49) + "(a) + (b)" + rep(")", 49), -1},
		{rep("-", 49) + "a ^ b", -1}, {rep("-", 50) + "a ^ b", 52}, {rep("-", 50) + "a + b ^ -c", -1}, {rep("-", 50) + "a * (b)", -1}, {rep("-", 50) + "(b)", 50}, {rep("-", 50) + "f()", 51}, {rep("-", 50) + "sum(x)", 53}, {rep("-", 50) + "sum by (x) (y)", 57},
		// Braces and brackets are no parentheses.
		{rep("(", 50) + `a{b="c"}[5m]` + rep(")", 50), -1},
		// The first fault from the left.
		{rep("(", 51), 50}, {rep("(", 51) + "!=", 50}, {rep("-", 51) + ")", 50},
	} {
		x, e, at := Parse(c.s)
		if c.at < 0 && (e != api.OK || at != 0) || c.at >= 0 && (e != api.ErrDeep || at != c.at || x.Nodes != nil) {
			t.Errorf("%.100q: %d, %d, not %d", c.s, e, at, c.at)
		}
		checkParse(t, c.s)
	}
	for s, want := range map[string]int{rep("(", 50): 50, rep("(", 50) + ")": 50, rep("-", 50): 50, rep("(", 50) + ")(": 50, ") " + rep("(", 60): 0} {
		if _, e, at := Parse(s); e != api.ErrSyntax || at != want {
			t.Error(s, e, at)
		}
		checkParse(t, s)
	}
}

func TestP14_1_Nodes(t *testing.T) {
	for _, c := range []struct {
		s string
		e api.Errno
	}{
		{"a" + rep("+a", 499), api.OK}, {"-a" + rep("+a", 499), api.OK}, {"--a" + rep("+a", 499), api.ErrLarge}, {"a" + rep("+a", 500), api.ErrLarge}, {"f(" + rep("a,", 998) + "a)", api.OK}, {"f(" + rep("a,", 999) + "a)", api.ErrLarge}, {"f(" + rep("a,", 1500) + "a)", api.ErrLarge}, {"f(" + rep("+a,", 998) + "+a)", api.OK}, {"f(" + rep("(a),", 499) + "a)", api.OK}, {"f(" + rep("(a),", 500) + ")", api.ErrSyntax},
	} {
		x, e, at := Parse(c.s)
		if e != c.e || at != 0 && e != api.ErrSyntax || (e == api.OK) != (x.Nodes != nil) {
			t.Errorf("%.50q: %d, %d", c.s, e, at)
		}
		if e == api.OK && len(x.Nodes) > 1000 {
			t.Error(len(x.Nodes))
		}
	}
	// A fault is told ahead of too many nodes, wherever it stands.
	s := "a" + rep("+a", 600)
	if _, e, at := Parse(s + "+"); e != api.ErrSyntax || at != len(s)+1 {
		t.Error(e, at)
	}
	if _, e, at := Parse(s + "[35y]"); e != api.ErrLarge || at != len(s)+1 {
		t.Error(e, at)
	}
	if x := must(t, "-a"+rep("+a", 499)); len(x.Nodes) != 1000 {
		t.Error(len(x.Nodes))
	}
}

// words: of which texts are put together.
var words = append(append(append([]string{"a", "b", "x", "rate", "a:b", "1", "2.5", "0x1f", "5m", "0s", "1h", "35y", `"s"`, `"x"`, "(", "(", ")", ")", "{", "}", "[", "]", ",", ",", "=", "!=", "=~", "!~", "__name__", "f", "time", "-", "-", "+"}, modelReserved...), modelAggregations...), append(slices.Clone(modelNumbers), modelOps[1:]...)...)

func TestP14_1_AnyWords(t *testing.T) {
	r := rand.New(rand.NewSource(1))
	for range 20000 {
		var l []string
		for range r.Intn(9) {
			l = append(l, pick(r, words...))
		}
		checkParse(t, strings.Join(l, " "))
	}
	for _, a := range words {
		for _, b := range words {
			checkParse(t, a+" "+b)
			checkParse(t, "a "+a+" "+b+" c")
			checkParse(t, "a * on ( x ) "+a+" "+b)
		}
	}
}

// Texts of trees, with a token left out, put in, or changed.
func TestP14_1_AlmostTexts(t *testing.T) {
	r := rand.New(rand.NewSource(2))
	for range 4000 {
		x := anyTree(r, 1+r.Intn(8), r.Intn(2) == 0)
		l := spell(r, x.Nodes, len(x.Nodes)-1)
		if len(l) > 60 {
			continue
		}
		for range 1 + r.Intn(2) {
			at := r.Intn(len(l))
			switch r.Intn(4) {
			case 0:
				l = slices.Delete(l, at, at+1)
			case 1:
				l = slices.Insert(l, at, pick(r, words...))
			case 2:
				l[at] = pick(r, words...)
			case 3:
				l = l[:at]
			}
			if len(l) == 0 {
				break
			}
		}
		checkParse(t, laid(r, l))
	}
}

func TestP14_1_TextsOfTrees(t *testing.T) {
	r := rand.New(rand.NewSource(3))
	for range 6000 {
		x := anyTree(r, 1+r.Intn(20), r.Intn(2) == 0)
		s := laid(r, spell(r, x.Nodes, len(x.Nodes)-1))
		got, e, at := Parse(s)
		if e == api.ErrDeep {
			continue
		}
		if e != api.OK || at != 0 || !modelSame(got, x) {
			t.Fatalf("%s: %d, %d\n%v\n%v", s, e, at, got, x)
		}
	}
}

func TestP14_5_SameTrees(t *testing.T) {
	for _, l := range [][]string{
		{"a+b", " a + b ", "a\n+#x\nb", "+a++b", "a + + b", "a\t+\r\nb # end"},
		{"sum by(x)(a)", "sum(a)by(x)", "sum(a) by (x,)", "sum by (x) (+a)"},
		{"avg without(x,y)(a)", "avg(a)without(x,y)"},
		{"topk by (x) (3, a)", "topk(3,a)by(x)", "topk(+3,+a)by(x)"},
		{`a{b="c"}`, `{__name__="a",b='c',}`, `a { b = "\x63" }`},
		{"-a^b", "-+a^b", "-a^+b", "+-a^b", "- a ^ b"},
	} {
		for _, s := range l {
			if !Same(must(t, s), must(t, l[0])) {
				t.Error(s, l[0])
			}
		}
	}
	r := rand.New(rand.NewSource(5))
	for range 2000 {
		x := anyTree(r, 1+r.Intn(12), false)
		a, e, _ := Parse(laid(r, spell(r, x.Nodes, len(x.Nodes)-1)))
		b, f, _ := Parse(laid(r, spell(r, x.Nodes, len(x.Nodes)-1)))
		if e == api.OK && f == api.OK && !Same(a, b) {
			t.Fatal(a, b)
		}
	}
}

func TestP14_6_Parts(t *testing.T) {
	r := rand.New(rand.NewSource(6))
	for range 3000 {
		x := anyTree(r, 1+r.Intn(12), false)
		got, e, _ := Parse(laid(r, spell(r, x.Nodes, len(x.Nodes)-1)))
		if e != api.OK {
			continue
		}
		of := make([]int, len(got.Nodes))
		for i, n := range got.Nodes {
			var all []int
			switch n.Kind {
			case api.NNeg, api.NParen:
				all = []int{n.A}
			case api.NBinary:
				all = []int{n.A, n.B}
			case api.NAggr:
				all = []int{n.A, n.B}
				if n.B == -1 {
					all = all[:1]
				}
			case api.NCall:
				all = n.Args
			}
			for _, p := range all {
				if p < 0 || p >= i {
					t.Fatal(got, i, p)
				}
				of[p]++
			}
		}
		for i, n := range of {
			if n != 1 && i < len(of)-1 || n != 0 && i == len(of)-1 {
				t.Fatal(got, of)
			}
		}
	}
}

// bare: the nodes without NParen.
func bare(l []api.Node) []api.Node {
	var out []api.Node
	to := make([]int, len(l)) // where each node has gone
	for i, n := range l {
		if n.Kind == api.NParen {
			to[i] = to[n.A]
			continue
		}
		switch n.Kind {
		case api.NNeg, api.NBinary, api.NAggr:
			n.A = to[n.A]
		}
		if n.Kind == api.NBinary || n.Kind == api.NAggr && n.B >= 0 {
			n.B = to[n.B]
		}
		n.Args = slices.Clone(n.Args)
		for j, p := range n.Args {
			n.Args[j] = to[p]
		}
		to[i] = len(out)
		out = append(out, n)
	}
	return out
}

// sided: the text of operators, signs and parentheses, with parentheses about each operator's sides.
func sided(l []api.Node, i int) string {
	switch n := l[i]; n.Kind {
	case api.NBinary:
		return "(" + sided(l, n.A) + ") " + modelOps[n.Op] + " (" + sided(l, n.B) + ")"
	case api.NNeg:
		return "-" + sided(l, n.A)
	case api.NParen:
		return "(" + sided(l, n.A) + ")"
	}
	return modelText(l, i)
}

// signs: a tree of operators, signs and parentheses alone.
func (g *gen) signs(level, size int) int {
	k := g.r.Intn(8)
	switch {
	case size <= 0:
	case k < 4 && level < levelSign:
		at := level + g.r.Intn(levelSign-level)
		a := g.signs(at, size-1-g.r.Intn(2))
		b := g.signs(at+1, size-1-g.r.Intn(2))
		return g.put(bin(slices.Index(modelOps, pick(g.r, strings.Fields(modelLevels[at])...)), a, b))
	case k < 6 && level <= levelSign:
		a := g.signs(levelAlone, size-2)
		b := g.signs(levelSign, size-1)
		return g.put(bin(api.OPow, a, b))
	case k < 7 && level <= levelSign:
		return g.put(neg(g.signs(levelSign, size-1)))
	case k < 7:
		return g.put(paren(g.signs(0, size-1)))
	}
	return g.put(metric(pick(g.r, "a", "b", "c")))
}

func TestP14_7_Binding(t *testing.T) {
	r := rand.New(rand.NewSource(7))
	for range 5000 {
		g := &gen{r: r}
		g.signs(0, 1+r.Intn(4))
		x := tree(g.nodes...)
		s := modelText(x.Nodes, len(x.Nodes)-1)
		if plain := must(t, s); !modelSame(plain, x) {
			t.Fatal(s, plain, x)
		}
		y := must(t, sided(x.Nodes, len(x.Nodes)-1))
		if !modelSame(tree(bare(y.Nodes)...), tree(bare(x.Nodes)...)) {
			t.Fatal(s, y)
		}
	}
}

func TestP14_1_NewMemory(t *testing.T) {
	const s = `sum by (a, b) (x{c="d",e="f"}) * on (g, h) group_left (i, j) foo(1, 2, 3)`
	x := must(t, s)
	want := must(t, s)
	for i := range x.Nodes {
		n := &x.Nodes[i]
		for _, l := range [][]string{n.By, n.Match.Labels, n.Match.Include} {
			for j := range l {
				l[j] = "z"
			}
			_ = append(l, "z")
		}
		for j := range n.Args {
			n.Args[j] = 99
		}
		for j := range n.Matchers {
			n.Matchers[j] = api.Matcher{}
		}
		_ = append(n.Args, 99)
		_ = append(n.Matchers, api.Matcher{})
	}
	_ = append(x.Nodes, num(1))
	if !modelSame(must(t, s), want) {
		t.Error("what was answered has changed")
	}
	// No two lists of one answer share memory.
	y := must(t, s)
	for i := range y.Nodes {
		n := &y.Nodes[i]
		_ = append(n.By, "z")
		_ = append(n.Match.Labels, "z")
		_ = append(n.Match.Include, "z")
		_ = append(n.Args, 99)
		_ = append(n.Matchers, api.Matcher{})
	}
	if !modelSame(y, want) {
		t.Error("lists share memory")
	}
}

func FuzzParse(f *testing.F) {
	r := rand.New(rand.NewSource(9))
	for range 200 {
		x := anyTree(r, 1+r.Intn(8), true)
		f.Add(laid(r, spell(r, x.Nodes, len(x.Nodes)-1)))
	}
	f.Fuzz(func(t *testing.T, s string) {
		if l, _, _ := lex.Tokens(s); len(l) > 150 {
			return
		}
		checkParse(t, s)
	})
}
