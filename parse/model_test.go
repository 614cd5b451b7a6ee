package parse

import (
	"math"
	"reflect"
	"regexp"
	"slices"
	"strings"

	"tocsin/api"
	"tocsin/expo"
	"tocsin/labels"
	"tocsin/lex"
	"tocsin/match"
)

var (
	modelReserved     = strings.Fields("and or unless bool on ignoring group_left group_right by without offset")
	modelAggregations = strings.Fields("sum avg min max count group stddev stdvar topk bottomk quantile count_values")
	modelNumbers      = strings.Fields("Inf NaN inf nan")
	modelOps          = []string{api.OAdd: "+", api.OSub: "-", api.OMul: "*", api.ODiv: "/", api.OMod: "%", api.OPow: "^", api.OEq: "==", api.ONe: "!=", api.OGt: ">", api.OLt: "<", api.OGe: ">=", api.OLe: "<=", api.OAnd: "and", api.OOr: "or", api.OUnless: "unless"}
	modelLevels       = []string{"or", "and unless", "== != > < >= <=", "+ -", "* / %", "^"}
	modelMatchers     = []string{api.MEq: "=", api.MNe: "!=", api.MRe: "=~", api.MNre: "!~"}
	wordForm          = regexp.MustCompile(`^[a-zA-Z_:][a-zA-Z0-9_:]*$`)
)

// The grammar of the chapter: what stands in brackets may be left out (LB and RB are brackets themselves); words that begin with a small letter, and signs, are of one token each.
const grammar = `
E = O
E = E arith [M] O
E = E cmp [bool] [M] O
E = E set [W] O
E = E arith W group N
E = E cmp [bool] W group N
W = on L
W = ignoring L
M = W [group L]
O = N
O = ( E )
N = neg O
N = number
N = string
N = V
N = agg [G] P
N = agg P G
N = func ( )
N = func ( A )
V = S [ROffset]
ROffset = [R] offset span
ROffset = R
R = LB nonzero RB
S = metric
S = metric { [F [,]] }
S = { [X [,]] }
X = label mop string
X = X , label mop string
F = other mop string
F = F , other mop string
L = ( [I [,]] )
I = label
I = I , label
G = by L
G = without L
P = ( E )
P = ( E , E )
A = E
A = A , E
`

// terminal: is a token of that word of the grammar?
func terminal(word string, t api.Token) bool {
	ident := t.Kind == api.TIdent
	sign := t.Kind == api.TSign
	switch word {
	case "number":
		return t.Kind == api.TNumber || ident && slices.Contains(modelNumbers, t.Text)
	case "string":
		return t.Kind == api.TString
	case "span":
		return t.Kind == api.TSpan
	case "nonzero":
		n, e := lex.Span(t.Text)
		return t.Kind == api.TSpan && (n > 0 || e == api.ErrLarge)
	case "arith":
		return sign && strings.Contains(" + - * / % ^ ", " "+t.Text+" ")
	case "cmp":
		return sign && strings.Contains(" == != > < >= <= ", " "+t.Text+" ")
	case "set":
		return ident && slices.Contains([]string{"and", "or", "unless"}, t.Text)
	case "neg":
		return sign && (t.Text == "-" || t.Text == "+")
	case "group":
		return ident && (t.Text == "group_left" || t.Text == "group_right")
	case "agg":
		return ident && slices.Contains(modelAggregations, t.Text)
	case "func":
		return ident && !slices.Contains(modelReserved, t.Text) && !slices.Contains(modelAggregations, t.Text)
	case "metric":
		return ident && !slices.Contains(modelReserved, t.Text) && !slices.Contains(modelNumbers, t.Text)
	case "label":
		return ident && !strings.Contains(t.Text, ":") && len(t.Text) <= 64
	case "other":
		return ident && !strings.Contains(t.Text, ":") && len(t.Text) <= 64 && t.Text != "__name__"
	case "mop":
		return sign && slices.Contains(modelMatchers[1:], t.Text)
	case "bool", "on", "ignoring", "by", "without", "offset":
		return ident && t.Text == word
	}
	return sign && t.Text == word
}

// rule is a rule of the grammar.
type rule struct {
	head string
	body []string
}

// expand answers the bodies that a line with brackets stands for.
func expand(words []string) [][]string {
	for i, w := range words {
		if w != "[" {
			continue
		}
		depth, end := 0, i
		for j := i; j < len(words); j++ {
			if words[j] == "[" {
				depth++
			}
			if words[j] == "]" {
				depth--
			}
			if depth == 0 {
				end = j
				break
			}
		}
		without := append(slices.Clone(words[:i]), words[end+1:]...)
		with := append(append(slices.Clone(words[:i]), words[i+1:end]...), words[end+1:]...)
		return append(expand(without), expand(with)...)
	}
	return [][]string{words}
}

// theRules: of each head.
var theRules = func() map[string][]rule {
	out := map[string][]rule{}
	for _, line := range strings.Split(strings.TrimSpace(grammar), "\n") {
		head, body, _ := strings.Cut(line, " = ")
		body = strings.NewReplacer("[", " [ ", "]", " ] ").Replace(body)
		for _, words := range expand(strings.Fields(body)) {
			for i, w := range words {
				words[i] = strings.NewReplacer("LB", "[", "RB", "]").Replace(w)
			}
			out[head] = append(out[head], rule{head, words})
		}
	}
	return out
}()

// item is a rule that is read up to a place, and where it began.
type item struct {
	head     string
	number   int
	dot, set int
}

// firstFault: the number of the first token with which no expression can go on (Earley's way); -1, if all are one.
func firstFault(l []api.Token) int {
	sets := make([][]item, len(l)+1)
	seen := make([]map[item]bool, len(l)+1)
	for i := range seen {
		seen[i] = map[item]bool{}
	}
	add := func(at int, x item) {
		if !seen[at][x] {
			seen[at][x] = true
			sets[at] = append(sets[at], x)
		}
	}
	for i := range theRules["E"] {
		add(0, item{"E", i, 0, 0})
	}
	for at := range l {
		whole := false
		for k := 0; k < len(sets[at]); k++ {
			x := sets[at][k]
			body := theRules[x.head][x.number].body
			if x.dot == len(body) {
				whole = whole || x.head == "E" && x.set == 0
				for _, y := range sets[x.set] {
					if b := theRules[y.head][y.number].body; y.dot < len(b) && b[y.dot] == x.head {
						y.dot++
						add(at, y)
					}
				}
				continue
			}
			next := body[x.dot]
			for i := range theRules[next] {
				add(at, item{next, i, 0, at})
			}
			if len(theRules[next]) == 0 && terminal(next, l[at]) {
				x.dot++
				add(at+1, x)
			}
		}
		if l[at].Kind == api.TEnd && whole {
			return -1
		}
		if len(sets[at+1]) == 0 {
			return at
		}
	}
	return len(l) - 1
}

// endsOperand: may an operator stand behind the token i? (Of ) the number of its ( is in opened.)
func endsOperand(l []api.Token, i int, opened map[int]int) bool {
	if i < 0 {
		return false
	}
	switch t := l[i]; {
	case t.Kind == api.TIdent:
		return !slices.Contains(modelReserved, t.Text)
	case t.Kind == api.TSign && t.Text == ")":
		ahead := opened[i] - 1
		return ahead < 0 || l[ahead].Kind != api.TIdent || !slices.Contains([]string{"on", "ignoring", "group_left", "group_right"}, l[ahead].Text)
	case t.Kind == api.TSign:
		return t.Text == "}" || t.Text == "]"
	}
	return true
}

// modelOp: the operator that the token i is.
func modelOp(l []api.Token, i int, opened map[int]int) int {
	if l[i].Kind != api.TSign && l[i].Kind != api.TIdent || !endsOperand(l, i-1, opened) {
		return 0
	}
	return max(0, slices.Index(modelOps[1:], l[i].Text)+1)
}

func level(op int) int {
	return slices.IndexFunc(modelLevels, func(s string) bool { return strings.Contains(" "+s+" ", " "+modelOps[op]+" ") })
}

// firstDeep: the number of the first sign, ( or ^ that is within 50 others; -1, if there is none.
func firstDeep(l []api.Token) int {
	var open []int
	opened := map[int]int{}
	// out: nothing but parentheses is open any more, down to the last one.
	out := func() {
		for len(open) > 0 && l[open[len(open)-1]].Text != "(" {
			open = open[:len(open)-1]
		}
	}
	for i, t := range l {
		op := modelOp(l, i, opened)
		isSign := t.Kind == api.TSign
		switch {
		case op > 0 && op != api.OPow, isSign && t.Text == ",":
			out()
		case op == api.OPow, isSign && (t.Text == "(" || t.Text == "-" || t.Text == "+"):
			if len(open) == 50 {
				return i
			}
			open = append(open, i)
		case isSign && t.Text == ")":
			out()
			if len(open) > 0 {
				opened[i] = open[len(open)-1]
				open = open[:len(open)-1]
			}
		}
	}
	return -1
}

func firstLarge(l []api.Token) int {
	return slices.IndexFunc(l, func(t api.Token) bool {
		_, e := lex.Span(t.Text)
		return t.Kind == api.TSpan && e == api.ErrLarge
	})
}

// modelParse: by the words of the document: whether and where a text is at fault, and its tree.
func modelParse(s string) (api.Tree, api.Errno, int) {
	l, e, at := lex.Tokens(s)
	if e != api.OK {
		return api.Tree{}, e, at
	}
	at = len(l)
	for _, c := range []struct {
		e  api.Errno
		at int
	}{{api.ErrSyntax, firstFault(l)}, {api.ErrLarge, firstLarge(l)}, {api.ErrDeep, firstDeep(l)}} {
		if c.at >= 0 && c.at < at {
			e, at = c.e, c.at
		}
	}
	if e != api.OK {
		return api.Tree{}, e, l[at].At
	}
	b := &builder{}
	b.expression(l[:len(l)-1])
	if len(b.nodes) > 1000 {
		return api.Tree{}, api.ErrLarge, 0
	}
	return api.Tree{Nodes: b.nodes}, api.OK, 0
}

// builder makes the tree of tokens that are an expression: by cutting them at the weakest operator.
type builder struct {
	nodes []api.Node
}

func (b *builder) put(n api.Node) int {
	b.nodes = append(b.nodes, n)
	return len(b.nodes) - 1
}

// depths: of each token within how many brackets it stands (those at the outmost ones: 0), and of each ) where its ( is.
func depths(l []api.Token) ([]int, map[int]int) {
	out := make([]int, len(l))
	opened := map[int]int{}
	var open []int
	for i, t := range l {
		isSign := t.Kind == api.TSign
		if isSign && strings.Contains(")]}", t.Text) {
			opened[i] = open[len(open)-1]
			open = open[:len(open)-1]
		}
		out[i] = len(open)
		if isSign && strings.Contains("([{", t.Text) {
			open = append(open, i)
		}
	}
	return out, opened
}

func (b *builder) expression(l []api.Token) int {
	depth, opened := depths(l)
	cut, op := -1, 0
	for i := range l {
		o := modelOp(l, i, opened)
		if o == 0 || depth[i] > 0 {
			continue
		}
		// The weakest one; of several the last one, since they go to the left, but of ^ the first one.
		if cut < 0 || level(o) < level(op) || level(o) == level(op) && o != api.OPow {
			cut, op = i, o
		}
	}
	isSign := l[0].Kind == api.TSign && (l[0].Text == "-" || l[0].Text == "+")
	if isSign && (cut < 0 || op == api.OPow) {
		part := b.expression(l[1:])
		if l[0].Text == "+" {
			return part
		}
		return b.put(api.Node{Kind: api.NNeg, A: part})
	}
	if cut < 0 {
		return b.one(l)
	}
	n := api.Node{Kind: api.NBinary, Op: op}
	n.A = b.expression(l[:cut])
	n.B = b.expression(modelModifiers(&n, l[cut+1:]))
	return b.put(n)
}

// modelModifiers: what stands behind an operator goes into the node; the rest is its right side.
func modelModifiers(n *api.Node, l []api.Token) []api.Token {
	is := func(word string) bool { return l[0].Kind == api.TIdent && l[0].Text == word }
	if n.Op >= api.OAnd {
		n.Match.Card = api.ManyToMany
	}
	if is("bool") {
		n.Flag = true
		l = l[1:]
	}
	if is("on") || is("ignoring") {
		n.Match.On = is("on")
		n.Match.Labels, l = modelNames(l[1:])
		if is("group_left") || is("group_right") {
			n.Match.Card = api.ManyToOne
			if is("group_right") {
				n.Match.Card = api.OneToMany
			}
			l = l[1:]
			if l[0].Kind == api.TSign && l[0].Text == "(" {
				n.Match.Include, l = modelNames(l)
			}
		}
	}
	return l
}

func modelNames(l []api.Token) ([]string, []api.Token) {
	var out []string
	for i, t := range l {
		if t.Kind == api.TIdent {
			out = append(out, t.Text)
		}
		if t.Text == ")" {
			return out, l[i+1:]
		}
	}
	panic("no end")
}

func (b *builder) arguments(l []api.Token) []int {
	var out []int
	depth, _ := depths(l)
	from := 1
	for i := 1; i < len(l); i++ {
		if i > from && (i == len(l)-1 || depth[i] == 1 && l[i].Kind == api.TSign && l[i].Text == ",") {
			out = append(out, b.expression(l[from:i]))
			from = i + 1
		}
	}
	return out
}

// one: an expression without operators.
func (b *builder) one(l []api.Token) int {
	t := l[0]
	second := ""
	if len(l) > 1 && l[1].Kind != api.TString {
		second = l[1].Text
	}
	switch {
	case t.Kind == api.TNumber:
		v, _ := lex.Number(t.Text)
		return b.put(api.Node{Kind: api.NNumber, Num: v})
	case t.Kind == api.TString:
		return b.put(api.Node{Kind: api.NString, Text: t.Text})
	case t.Text == "(":
		return b.put(api.Node{Kind: api.NParen, A: b.expression(l[1 : len(l)-1])})
	case slices.Contains(modelAggregations, t.Text) && slices.Contains([]string{"(", "by", "without"}, second):
		return b.aggregation(l)
	case second == "(":
		args := b.arguments(l[1:])
		return b.put(api.Node{Kind: api.NCall, Text: t.Text, Args: args})
	case t.Text == "Inf" || t.Text == "inf":
		return b.put(api.Node{Kind: api.NNumber, Num: math.Inf(1)})
	case t.Text == "NaN" || t.Text == "nan":
		return b.put(api.Node{Kind: api.NNumber, Num: math.Float64frombits(0x7ff8000000000001)})
	}
	n := api.Node{Kind: api.NSelect}
	if t.Kind == api.TIdent {
		n.Matchers = append(n.Matchers, api.Matcher{Op: api.MEq, Name: "__name__", Value: t.Text})
	}
	for i := 1; i < len(l); i++ {
		switch {
		case l[i].Kind == api.TString:
			n.Matchers = append(n.Matchers, api.Matcher{Op: slices.Index(modelMatchers, l[i-1].Text), Name: l[i-2].Text, Value: l[i].Text})
		case l[i].Kind == api.TSpan && l[i-1].Text == "[":
			n.Range, _ = lex.Span(l[i].Text)
		case l[i].Kind == api.TSpan:
			n.Offset, _ = lex.Span(l[i].Text)
		}
	}
	return b.put(n)
}

func (b *builder) aggregation(l []api.Token) int {
	n := api.Node{Kind: api.NAggr, Text: l[0].Text, B: -1}
	l = l[1:]
	if l[0].Text == "(" {
		_, opened := depths(l)
		end := 0
		for i, from := range opened {
			if from == 0 {
				end = i
			}
		}
		behind := l[end+1:]
		l = l[:end+1]
		if len(behind) > 0 {
			n.Flag = behind[0].Text == "without"
			n.By, _ = modelNames(behind[1:])
		}
	} else {
		n.Flag = l[0].Text == "without"
		n.By, l = modelNames(l[1:])
	}
	args := b.arguments(l)
	n.A = args[len(args)-1]
	if len(args) == 2 {
		n.B = args[0]
	}
	return b.put(n)
}

// modelText: a node's text, by the words of P14.2.
func modelText(l []api.Node, i int) string {
	n := l[i]
	list := func(names []string) string { return "(" + strings.Join(names, ", ") + ")" }
	args := func(parts ...int) string {
		var texts []string
		for _, p := range parts {
			texts = append(texts, modelText(l, p))
		}
		return list(texts)
	}
	switch n.Kind {
	case api.NNumber:
		if math.IsInf(n.Num, 0) {
			return strings.TrimPrefix(expo.Text(n.Num), "+")
		}
		return expo.Text(n.Num)
	case api.NString:
		s, _ := lex.Quote(n.Text)
		return s
	case api.NParen:
		return args(n.A)
	case api.NNeg:
		return "-" + modelText(l, n.A)
	case api.NCall:
		return n.Text + args(n.Args...)
	case api.NAggr:
		by := ""
		if n.Flag {
			by = " without " + list(n.By) + " "
		} else if len(n.By) > 0 {
			by = " by " + list(n.By) + " "
		}
		if n.B >= 0 {
			return n.Text + by + args(n.B, n.A)
		}
		return n.Text + by + args(n.A)
	case api.NBinary:
		op := ""
		if n.Op > 0 && n.Op < len(modelOps) {
			op = modelOps[n.Op]
		}
		if n.Flag {
			op += " bool"
		}
		group := map[int]string{api.ManyToOne: " group_left ", api.OneToMany: " group_right "}[n.Match.Card]
		if n.Match.On {
			op += " on " + list(n.Match.Labels)
		} else if len(n.Match.Labels) > 0 || group != "" {
			op += " ignoring " + list(n.Match.Labels)
		}
		if group != "" {
			op += group + list(n.Match.Include)
		}
		return modelText(l, n.A) + " " + op + " " + modelText(l, n.B)
	case api.NSelect:
		return modelSelector(n)
	}
	return ""
}

func modelSelector(n api.Node) string {
	name, rest := "", n.Matchers
	if len(rest) > 0 && rest[0].Name == "__name__" && rest[0].Op == api.MEq && wordForm.MatchString(rest[0].Value) && !slices.Contains(modelReserved, rest[0].Value) && !slices.Contains(modelNumbers, rest[0].Value) {
		if !slices.ContainsFunc(rest[1:], func(m api.Matcher) bool { return m.Name == "__name__" }) {
			name, rest = rest[0].Value, rest[1:]
		}
	}
	var texts []string
	for _, m := range rest {
		op := ""
		if m.Op > 0 && m.Op < len(modelMatchers) {
			op = modelMatchers[m.Op]
		}
		s, _ := lex.Quote(m.Value)
		texts = append(texts, m.Name+op+s)
	}
	s := name
	if name == "" || len(rest) > 0 {
		s += "{" + strings.Join(texts, ",") + "}"
	}
	if n.Range != 0 {
		span, _ := lex.SpanText(n.Range)
		s += "[" + span + "]"
	}
	if n.Offset != 0 {
		span, _ := lex.SpanText(n.Offset)
		s += " offset " + span
	}
	return s
}

// walk: the numbers of the nodes in the order in which the parts stand in the text; false, if they are no tree.
func walk(l []api.Node, i int, out *[]int) bool {
	if i < 0 || i >= len(l) || len(*out) > len(l) {
		return false
	}
	n := l[i]
	var all []int
	switch n.Kind {
	case api.NParen, api.NNeg:
		all = []int{n.A}
	case api.NBinary:
		all = []int{n.A, n.B}
	case api.NAggr:
		all = []int{n.B, n.A}
		if n.B == -1 {
			all = all[1:]
		}
	case api.NCall:
		all = n.Args
	}
	for _, p := range all {
		if p >= i || !walk(l, p, out) {
			return false
		}
	}
	*out = append(*out, i)
	return true
}

// modelPrint: a right tree's text.
func modelPrint(t api.Tree) (string, api.Errno) {
	var order []int
	if len(t.Nodes) == 0 || len(t.Nodes) > 1000 || !walk(t.Nodes, len(t.Nodes)-1, &order) || len(order) != len(t.Nodes) {
		return "", api.ErrForm
	}
	for i, j := range order {
		if i != j {
			return "", api.ErrForm
		}
	}
	s := modelText(t.Nodes, len(t.Nodes)-1)
	if again, e, _ := modelParse(s); e != api.OK || !modelSame(again, t) {
		return "", api.ErrForm
	}
	return s, api.OK
}

// bitsOf: the tree with its numbers as their bits, and empty lists as none.
func bitsOf(t api.Tree) any {
	type node struct {
		api.Node
		bits uint64
	}
	out := []node{}
	for _, n := range t.Nodes {
		bits := math.Float64bits(n.Num)
		n.Num = 0
		n.Args = append([]int{}, n.Args...)
		n.By = append([]string{}, n.By...)
		n.Matchers = append([]api.Matcher{}, n.Matchers...)
		n.Match.Labels = append([]string{}, n.Match.Labels...)
		n.Match.Include = append([]string{}, n.Match.Include...)
		out = append(out, node{n, bits})
	}
	return out
}

func modelSame(a, b api.Tree) bool { return reflect.DeepEqual(bitsOf(a), bitsOf(b)) }

// The table of functions: their arguments and their types.
const functionTable = `
sum_over_time avg_over_time min_over_time max_over_time count_over_time last_over_time present_over_time changes resets delta increase rate irate idelta absent_over_time: matrix: vector
quantile_over_time: scalar matrix: vector
abs ceil floor round sqrt sgn sort sort_desc timestamp absent: vector: vector
clamp: vector scalar scalar: vector
clamp_min clamp_max: vector scalar: vector
histogram_quantile: scalar vector: vector
label_join: vector string string: vector
scalar: vector: scalar
vector: scalar: vector
time: : scalar
`

type signature struct {
	args []int
	kind int
}

var functions = func() map[string]signature {
	kinds := map[string]int{"scalar": api.VScalar, "string": api.VString, "vector": api.VVector, "matrix": api.VMatrix}
	out := map[string]signature{}
	for _, line := range strings.Split(strings.TrimSpace(functionTable), "\n") {
		parts := strings.Split(line, ":")
		var s signature
		for _, w := range strings.Fields(parts[1]) {
			s.args = append(s.args, kinds[w])
		}
		s.kind = kinds[strings.TrimSpace(parts[2])]
		for _, name := range strings.Fields(parts[0]) {
			out[name] = s
		}
	}
	return out
}()

// modelType: the type of a node of a right tree, by the types of those ahead of it; else its fault.
func modelType(l []api.Node, known []int, i int) (int, api.Errno) {
	n := l[i]
	kind := func(p int) int { return known[p] }
	// says: what a string says, through parentheses.
	says := func(p int) string {
		for l[p].Kind == api.NParen {
			p = l[p].A
		}
		return l[p].Text
	}
	bad := func(if_ bool, k int) (int, api.Errno) {
		if if_ {
			return 0, api.ErrType
		}
		return k, api.OK
	}
	switch n.Kind {
	case api.NNumber:
		return api.VScalar, api.OK
	case api.NString:
		return api.VString, api.OK
	case api.NSelect:
		if e, _ := match.Right(n.Matchers); e != api.OK {
			return 0, e
		}
		some := slices.ContainsFunc(n.Matchers, func(m api.Matcher) bool { return !match.New(m).Empty() })
		if n.Range > 0 {
			return bad(!some, api.VMatrix)
		}
		return bad(!some, api.VVector)
	case api.NParen:
		return kind(n.A), api.OK
	case api.NNeg:
		return bad(kind(n.A) == api.VString || kind(n.A) == api.VMatrix, kind(n.A))
	case api.NBinary:
		a, b := kind(n.A), kind(n.B)
		set := n.Op == api.OAnd || n.Op == api.OOr || n.Op == api.OUnless
		compares := strings.Contains("== != >= <=", modelOps[n.Op])
		both := a == api.VVector && b == api.VVector
		wrong := a == api.VString || b == api.VString || a == api.VMatrix || b == api.VMatrix
		wrong = wrong || set && !both
		wrong = wrong || a == api.VScalar && b == api.VScalar && compares && !n.Flag
		wrong = wrong || !both && (n.Match.On || len(n.Match.Labels) > 0 || n.Match.Card == api.ManyToOne || n.Match.Card == api.OneToMany)
		wrong = wrong || n.Match.On && slices.ContainsFunc(n.Match.Include, func(s string) bool { return slices.Contains(n.Match.Labels, s) })
		return bad(wrong, map[bool]int{true: api.VScalar, false: api.VVector}[a == api.VScalar && b == api.VScalar])
	case api.NAggr:
		wrong := kind(n.A) != api.VVector
		switch n.Text {
		case "topk", "bottomk", "quantile":
			wrong = wrong || n.B < 0 || kind(n.B) != api.VScalar
		case "count_values":
			wrong = wrong || n.B < 0 || kind(n.B) != api.VString || !labels.Name(says(n.B))
		default:
			wrong = wrong || n.B >= 0
		}
		return bad(wrong, api.VVector)
	}
	f, ok := functions[n.Text]
	if !ok {
		return 0, api.ErrOp
	}
	want := slices.Clone(f.args)
	if n.Text == "label_join" {
		for len(want) < len(n.Args) {
			want = append(want, api.VString)
		}
	}
	var got []int
	wrong := false
	for j, p := range n.Args {
		got = append(got, kind(p))
		wrong = wrong || n.Text == "label_join" && kind(p) == api.VString && j != 2 && !labels.Name(says(p))
	}
	return bad(wrong || !slices.Equal(got, want), f.kind)
}

func modelCheck(t api.Tree) (int, api.Errno, int) {
	if _, e := modelPrint(t); e != api.OK {
		return 0, e, 0
	}
	var known []int
	for i := range t.Nodes {
		k, e := modelType(t.Nodes, known, i)
		if e != api.OK {
			return 0, e, i
		}
		known = append(known, k)
	}
	return known[len(known)-1], api.OK, 0
}
