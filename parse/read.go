package parse

import (
	"tocsin/api"
	"tocsin/labels"
	"tocsin/lex"
)

// none is the number of a part that is not there.
const none = -1

// fault is what is thrown where a text can not be read: what is wrong, and where.
type fault struct {
	e  api.Errno
	at int
}

// reader reads tokens, the last one their end, and puts nodes behind one another.
type reader struct {
	tokens []api.Token
	at     int // the number of the token that is read next
	open   int // how many signs, parentheses and ^ are open
	nodes  []api.Node
}

// read answers the nodes of the expression that all tokens are.
func read(l []api.Token) (nodes []api.Node, e api.Errno, at int) {
	defer func() {
		switch thrown := recover().(type) {
		case nil:
		case fault:
			nodes, e, at = nil, thrown.e, thrown.at
		default:
			panic(thrown)
		}
	}()
	r := &reader{tokens: l}
	r.expression(bindsOr)
	if r.next().Kind != api.TEnd {
		r.refuse(api.ErrSyntax)
	}
	return r.nodes, api.OK, 0
}

// next answers the token that is read next. The end is never gone over.
func (r *reader) next() api.Token {
	return r.tokens[r.at]
}

// behind answers the token behind that one, which is not the end.
func (r *reader) behind() api.Token {
	return r.tokens[r.at+1]
}

func (r *reader) refuse(e api.Errno) {
	panic(fault{e: e, at: r.next().At})
}

func (r *reader) put(n api.Node) int {
	r.nodes = append(r.nodes, n)
	return len(r.nodes) - 1
}

func isSign(t api.Token, text string) bool {
	return t.Kind == api.TSign && t.Text == text
}

func isWord(t api.Token, text string) bool {
	return t.Kind == api.TIdent && t.Text == text
}

// sign goes over a sign, if it stands there.
func (r *reader) sign(text string) bool {
	if !isSign(r.next(), text) {
		return false
	}
	r.at++
	return true
}

// word goes over a word, if it stands there.
func (r *reader) word(text string) bool {
	if !isWord(r.next(), text) {
		return false
	}
	r.at++
	return true
}

// need goes over a sign, which must stand there.
func (r *reader) need(text string) {
	if !r.sign(text) {
		r.refuse(api.ErrSyntax)
	}
}

// enter goes over a sign, a parenthesis or a ^, which is open from now on.
func (r *reader) enter() {
	if r.open == api.MaxNest {
		r.refuse(api.ErrDeep)
	}
	r.open++
	r.at++
}

// leave: what was opened last is not open any more.
func (r *reader) leave() {
	r.open--
}

func (r *reader) enterParenthesis() {
	if !isSign(r.next(), "(") {
		r.refuse(api.ErrSyntax)
	}
	r.enter()
}

func (r *reader) leaveParenthesis() {
	r.need(")")
	r.leave()
}

// expression reads operands, and between them operators that bind at least as strongly as level, and answers its node.
func (r *reader) expression(level int) int {
	left := r.operand()
	for {
		op := opOf(r.next())
		if op == 0 || binds(op) < level {
			return left
		}
		left = r.binary(left, op)
	}
}

// binary reads an operator and its right side.
func (r *reader) binary(left, op int) int {
	n := api.Node{Kind: api.NBinary, Op: op, A: left}
	// Powers go to the right, and are open meanwhile; all others go to the left.
	if op == api.OPow {
		r.enter()
		r.modifiers(&n)
		n.B = r.expression(bindsPower)
		r.leave()
		return r.put(n)
	}
	r.at++
	r.modifiers(&n)
	n.B = r.expression(binds(op) + 1)
	return r.put(n)
}

// modifiers reads what stands behind an operator, ahead of its right side.
func (r *reader) modifiers(n *api.Node) {
	if isOfSets(n.Op) {
		n.Match.Card = api.ManyToMany
	}
	if isComparison(n.Op) {
		n.Flag = r.word("bool")
	}
	switch {
	case r.word("on"):
		n.Match.On = true
		fallthrough
	case r.word("ignoring"):
		n.Match.Labels = r.names()
		if !isOfSets(n.Op) {
			r.group(&n.Match)
		}
	}
}

// group reads group_left or group_right, if one stands there. A parenthesis behind it is always that of its names.
func (r *reader) group(m *api.Match) {
	switch {
	case r.word("group_left"):
		m.Card = api.ManyToOne
	case r.word("group_right"):
		m.Card = api.OneToMany
	default:
		return
	}
	if isSign(r.next(), "(") {
		m.Include = r.names()
	}
}

// names reads names of labels in parentheses.
func (r *reader) names() []string {
	var l []string
	r.enterParenthesis()
	for !isSign(r.next(), ")") {
		l = append(l, r.name())
		if !r.sign(",") {
			break
		}
	}
	r.leaveParenthesis()
	return l
}

func (r *reader) name() string {
	t := r.next()
	if t.Kind != api.TIdent || !labels.Name(t.Text) {
		r.refuse(api.ErrSyntax)
	}
	r.at++
	return t.Text
}

// span reads a duration of so many milliseconds at least.
func (r *reader) span(least int64) int64 {
	t := r.next()
	n, e := lex.Span(t.Text)
	switch {
	case t.Kind != api.TSpan, e == api.OK && n < least:
		r.refuse(api.ErrSyntax)
	case e != api.OK:
		r.refuse(e)
	}
	r.at++
	return n
}
