package parse

import (
	"math"
	"math/rand"
	"slices"
	"strconv"
	"strings"

	"tocsin/api"
	"tocsin/expo"
	"tocsin/lex"
)

// gen makes trees that are right, by the levels at which operators bind.
type gen struct {
	r     *rand.Rand
	nodes []api.Node
	typed bool // with types that mostly fit
}

func pick[T any](r *rand.Rand, l ...T) T { return l[r.Intn(len(l))] }

func (g *gen) put(n api.Node) int {
	g.nodes = append(g.nodes, n)
	return len(g.nodes) - 1
}

var someNames = []string{"a", "b", "job", "__name__", "and", "on", "by", "sum", "Inf", "offset", "rate", "_"}

func (g *gen) names() []string {
	var l []string
	for range g.r.Intn(4) {
		l = append(l, pick(g.r, someNames...))
	}
	return l
}

const (
	levelSign  = 5 // what may stand behind ^: a sign, or a power
	levelAlone = 6
)

// expression: of operators that bind at least so strongly.
func (g *gen) expression(level, size int) int {
	if size <= 0 || level == levelAlone {
		return g.alone(size)
	}
	switch k := g.r.Intn(10); {
	case k < 5 && level < levelSign:
		at := level + g.r.Intn(levelSign-level)
		op := slices.Index(modelOps, pick(g.r, strings.Fields(modelLevels[at])...))
		return g.binary(op, at, at+1, size)
	case k < 7:
		return g.binary(api.OPow, levelAlone, levelSign, size)
	case k < 8:
		part := g.expression(levelSign, size-1)
		return g.put(api.Node{Kind: api.NNeg, A: part})
	}
	return g.alone(size)
}

func (g *gen) binary(op, left, right, size int) int {
	n := api.Node{Kind: api.NBinary, Op: op}
	n.A = g.expression(left, size/2)
	n.B = g.expression(right, size/2)
	if op >= api.OEq && op <= api.OLe {
		n.Flag = g.r.Intn(3) == 0
	}
	if op >= api.OAnd {
		n.Match.Card = api.ManyToMany
	}
	if g.r.Intn(3) == 0 {
		n.Match.On = g.r.Intn(2) == 0
		n.Match.Labels = g.names()
		if op < api.OAnd && g.r.Intn(2) == 0 {
			n.Match.Card = pick(g.r, api.ManyToOne, api.OneToMany)
			n.Match.Include = g.names()
		}
	}
	return g.put(n)
}

var someNumbers = []float64{0, 1, 2.5, 1e21, 1e-7, 0.1, math.MaxFloat64, 5e-324, math.Inf(1), math.Float64frombits(0x7ff8000000000001), 100000000000000000000, 123456.789}

func (g *gen) number() int {
	return g.put(api.Node{Kind: api.NNumber, Num: pick(g.r, someNumbers...)})
}

func (g *gen) text() int {
	return g.put(api.Node{Kind: api.NString, Text: pick(g.r, "", "a", "b_1", "a b", "\"'\\\n\x00é", "#", "__name__", "1a")})
}

func (g *gen) selector(isRange bool) int {
	n := api.Node{Kind: api.NSelect}
	if g.r.Intn(4) > 0 {
		n.Matchers = append(n.Matchers, api.Matcher{Op: api.MEq, Name: "__name__", Value: pick(g.r, "up", "a:b", "sum", "rate", "Inf", "and", "", "a b", "1", ":", "nan", "time", "topk", "é")})
	}
	for range g.r.Intn(3) {
		n.Matchers = append(n.Matchers, api.Matcher{Op: 1 + g.r.Intn(4), Name: pick(g.r, someNames...), Value: pick(g.r, "", "x", "a.*", "(", "\"\\\n\t", "é", ".+")})
	}
	if isRange {
		n.Range = pick(g.r, 1, 300000, 5400000, int64(1<<40), 1+g.r.Int63n(1<<40))
	}
	if g.r.Intn(4) == 0 {
		n.Offset = pick(g.r, 1, 3600000, int64(1<<40), 1+g.r.Int63n(1<<40))
	}
	return g.put(n)
}

// alone: what needs no parentheses anywhere.
func (g *gen) alone(size int) int {
	k := g.r.Intn(12)
	if size <= 0 {
		k = g.r.Intn(5)
	}
	switch {
	case k == 0:
		return g.number()
	case k == 1 && g.r.Intn(2) == 0:
		return g.text()
	case k < 5:
		return g.selector(g.r.Intn(4) == 0)
	case k < 7:
		part := g.expression(0, size-1)
		return g.put(api.Node{Kind: api.NParen, A: part})
	case k < 9:
		return g.aggregation(size)
	}
	return g.call(size)
}

func (g *gen) aggregation(size int) int {
	n := api.Node{Kind: api.NAggr, Text: pick(g.r, modelAggregations...), B: -1, Flag: g.r.Intn(3) == 0, By: g.names()}
	if g.r.Intn(3) == 0 || g.typed && slices.Contains(modelAggregations[8:], n.Text) {
		n.B = g.argument(pick(g.r, api.VScalar, api.VString), size/2)
	}
	n.A = g.argument(api.VVector, size/2)
	return g.put(n)
}

// argument: mostly of that kind, if types are asked for.
func (g *gen) argument(kind, size int) int {
	if !g.typed || g.r.Intn(20) == 0 {
		return g.expression(0, size)
	}
	switch kind {
	case api.VScalar:
		return g.number()
	case api.VString:
		return g.text()
	case api.VMatrix:
		return g.selector(true)
	}
	return g.selector(false)
}

func (g *gen) call(size int) int {
	var all []string
	for name := range functions {
		all = append(all, name)
	}
	slices.Sort(all)
	name := pick(g.r, append(all, "foo", "a:b", "Inf", "nan", "label_join")...)
	n := api.Node{Kind: api.NCall, Text: name}
	kinds := slices.Clone(functions[name].args)
	for g.r.Intn(4) == 0 {
		kinds = append(kinds, api.VString)
	}
	if len(kinds) > 0 && g.r.Intn(10) == 0 {
		kinds = kinds[1:]
	}
	for _, k := range kinds {
		n.Args = append(n.Args, g.argument(k, size/2))
	}
	return g.put(n)
}

// anyTree: a tree that is right, if it is not too deep.
func anyTree(r *rand.Rand, size int, typed bool) api.Tree {
	g := &gen{r: r, typed: typed}
	g.expression(0, size)
	return api.Tree{Nodes: g.nodes}
}

// spell: tokens of a text that has the node, in one of the ways in which it may be written.
func spell(r *rand.Rand, l []api.Node, i int) []string {
	n := l[i]
	var out []string
	for r.Intn(12) == 0 {
		out = append(out, "+")
	}
	list := func(names []string) {
		out = append(out, "(")
		for j, s := range names {
			if out = append(out, s); j < len(names)-1 || r.Intn(4) == 0 {
				out = append(out, ",")
			}
		}
		out = append(out, ")")
	}
	args := func(parts ...int) {
		out = append(out, "(")
		for j, p := range parts {
			if j > 0 {
				out = append(out, ",")
			}
			out = append(out, spell(r, l, p)...)
		}
		out = append(out, ")")
	}
	switch n.Kind {
	case api.NNumber:
		out = append(out, spellNumber(r, n.Num))
	case api.NString:
		out = append(out, spellText(r, n.Text))
	case api.NParen:
		args(n.A)
	case api.NNeg:
		out = append(append(out, "-"), spell(r, l, n.A)...)
	case api.NCall:
		out = append(out, n.Text)
		args(n.Args...)
	case api.NSelect:
		out = append(out, spellSelector(r, n)...)
	case api.NAggr:
		ahead := r.Intn(2) == 0
		by := func() {
			if n.Flag {
				out = append(out, "without")
				list(n.By)
			} else if len(n.By) > 0 || r.Intn(4) == 0 {
				out = append(out, "by")
				list(n.By)
			}
		}
		out = append(out, n.Text)
		if ahead {
			by()
		}
		if n.B >= 0 {
			args(n.B, n.A)
		} else {
			args(n.A)
		}
		if !ahead {
			by()
		}
	case api.NBinary:
		out = append(append(out, spell(r, l, n.A)...), modelOps[n.Op])
		right := spell(r, l, n.B)
		if n.Flag {
			out = append(out, "bool")
		}
		grouped := n.Match.Card == api.ManyToOne || n.Match.Card == api.OneToMany
		if n.Match.On {
			out = append(out, "on")
			list(n.Match.Labels)
		} else if len(n.Match.Labels) > 0 || grouped || r.Intn(5) == 0 {
			out = append(out, "ignoring")
			list(n.Match.Labels)
		}
		if grouped {
			out = append(out, map[int]string{api.ManyToOne: "group_left", api.OneToMany: "group_right"}[n.Match.Card])
			if len(n.Match.Include) > 0 || right[0] == "(" || r.Intn(2) == 0 {
				list(n.Match.Include)
			}
		}
		out = append(out, right...)
	}
	return out
}

func spellNumber(r *rand.Rand, v float64) string {
	switch {
	case math.IsInf(v, 1):
		return pick(r, "Inf", "inf", "1e999")
	case math.IsNaN(v):
		return pick(r, "NaN", "nan")
	case v == math.Trunc(v) && v < 1<<50 && r.Intn(2) == 0:
		return pick(r, "0x"+strconv.FormatInt(int64(v), 16), strconv.FormatInt(int64(v), 10)+".", "00"+strconv.FormatInt(int64(v), 10)+".0e0")
	}
	return expo.Text(v)
}

func spellText(r *rand.Rand, s string) string {
	q, _ := lex.Quote(s)
	if r.Intn(2) == 0 && !strings.Contains(s, "'") {
		q = "'" + q[1:len(q)-1] + "'"
	}
	return q
}

func spellSpan(r *rand.Rand, n int64) string {
	s, _ := lex.SpanText(n)
	if r.Intn(2) == 0 {
		s = strconv.FormatInt(n, 10) + "ms"
	}
	return s
}

func spellSelector(r *rand.Rand, n api.Node) []string {
	var out []string
	l := n.Matchers
	ahead := strings.HasPrefix(modelSelector(n), "{") == false && r.Intn(3) > 0
	if ahead {
		out = append(out, l[0].Value)
		l = l[1:]
	}
	if !ahead || len(l) > 0 || r.Intn(4) == 0 {
		out = append(out, "{")
		for i, m := range l {
			out = append(out, m.Name, modelMatchers[m.Op], spellText(r, m.Value))
			if i < len(l)-1 || r.Intn(4) == 0 {
				out = append(out, ",")
			}
		}
		out = append(out, "}")
	}
	if n.Range > 0 {
		out = append(out, "[", spellSpan(r, n.Range), "]")
	}
	if n.Offset > 0 {
		out = append(out, "offset", spellSpan(r, n.Offset))
	} else if r.Intn(8) == 0 {
		out = append(out, "offset", "0s")
	}
	return out
}

// laid: tokens put together, with blanks and remarks between them, and none where none need stand.
func laid(r *rand.Rand, l []string) string {
	var b strings.Builder
	for i, s := range l {
		tight := i > 0 && (strings.Contains("(){}[],", s) || strings.Contains("(){}[],", l[i-1]))
		switch k := r.Intn(12); {
		case k == 0:
			b.WriteString(" # \xff\"\n\t")
		case k < 3:
			b.WriteString("\r\n ")
		case k < 8 || i > 0 && !tight:
			b.WriteString(" ")
		}
		b.WriteString(s)
	}
	b.WriteString(pick(r, "", "", " ", "\n", "# end"))
	return b.String()
}
