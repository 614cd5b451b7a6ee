package parse

import (
	"tocsin/api"
	"tocsin/lex"
)

// anyNumber of arguments a function may have.
const anyNumber = -1

// operand reads what may stand on a side of an operator.
func (r *reader) operand() int {
	switch t := r.next(); t.Kind {
	case api.TNumber:
		v, _ := lex.Number(t.Text)
		return r.number(v)
	case api.TString:
		r.at++
		return r.put(api.Node{Kind: api.NString, Text: t.Text})
	case api.TIdent:
		return r.named(t.Text)
	case api.TSign:
		return r.signed(t.Text)
	}
	r.refuse(api.ErrSyntax)
	return none
}

// signed reads an operand that begins with a sign.
func (r *reader) signed(sign string) int {
	minus := false
	switch sign {
	case "-":
		minus = true
		fallthrough
	case "+":
		r.enter()
		part := r.expression(bindsPower)
		r.leave()
		if !minus {
			return part
		}
		return r.put(api.Node{Kind: api.NNeg, A: part})
	case "(":
		r.enterParenthesis()
		part := r.expression(bindsOr)
		r.leaveParenthesis()
		return r.put(api.Node{Kind: api.NParen, A: part})
	case "{":
		return r.selector()
	}
	r.refuse(api.ErrSyntax)
	return none
}

// named reads an operand that begins with a word.
func (r *reader) named(word string) int {
	behind := r.behind()
	called := isSign(behind, "(")
	v, isNumber := numberOf(word)
	switch {
	case isReserved(word):
		r.refuse(api.ErrSyntax)
	case isAggregation(word) && (called || isWord(behind, "by") || isWord(behind, "without")):
		return r.aggregation()
	case called:
		r.at++
		args := r.arguments(0, anyNumber)
		return r.put(api.Node{Kind: api.NCall, Text: word, Args: args})
	case isNumber:
		return r.number(v)
	}
	return r.selector()
}

// number goes over the token that says it.
func (r *reader) number(v float64) int {
	r.at++
	return r.put(api.Node{Kind: api.NNumber, Num: v})
}

// aggregation reads a word, its arguments, and, ahead of them or behind them, by what is aggregated.
func (r *reader) aggregation() int {
	n := api.Node{Kind: api.NAggr, Text: r.next().Text, B: none}
	r.at++
	ahead := r.grouping(&n)
	args := r.arguments(1, 2)
	if !ahead {
		r.grouping(&n)
	}
	n.A = args[len(args)-1]
	if len(args) > 1 {
		n.B = args[0]
	}
	return r.put(n)
}

// grouping reads by or without and its names, if one of them stands there.
func (r *reader) grouping(n *api.Node) bool {
	switch {
	case r.word("without"):
		n.Flag = true
		fallthrough
	case r.word("by"):
		n.By = r.names()
		return true
	}
	return false
}

// arguments reads expressions in parentheses, so many at least, and so many at most.
func (r *reader) arguments(least, most int) []int {
	var l []int
	r.enterParenthesis()
reading:
	for least > 0 || !isSign(r.next(), ")") {
		l = append(l, r.expression(bindsOr))
		switch {
		case isSign(r.next(), ")"):
			break reading
		case len(l) == most:
			r.refuse(api.ErrSyntax)
		}
		r.need(",")
		least = 1 // Behind a comma one must stand.
	}
	r.leaveParenthesis()
	return l
}

// selector reads a name, or matchers, or both, and what stands behind them.
func (r *reader) selector() int {
	n := api.Node{Kind: api.NSelect}
	t := r.next()
	switch t.Kind {
	case api.TIdent:
		r.at++
		n.Matchers = append(n.Matchers, api.Matcher{Op: api.MEq, Name: metricName, Value: t.Text})
		if !isSign(r.next(), "{") {
			break
		}
		fallthrough
	default:
		n.Matchers = r.matchers(n.Matchers)
	}
	if r.sign("[") {
		n.Range = r.span(1)
		r.need("]")
	}
	if r.word("offset") {
		n.Offset = r.span(0)
	}
	return r.put(n)
}

// matchers reads matchers in braces, and answers them behind l: the name ahead, if there is one.
func (r *reader) matchers(l []api.Matcher) []api.Matcher {
	named := len(l) > 0
	r.need("{")
	for !isSign(r.next(), "}") {
		if named && isWord(r.next(), metricName) {
			r.refuse(api.ErrSyntax)
		}
		l = append(l, r.matcher())
		if !r.sign(",") {
			break
		}
	}
	r.need("}")
	return l
}

func (r *reader) matcher() api.Matcher {
	m := api.Matcher{Name: r.name()}
	sign := r.next()
	if sign.Kind == api.TSign {
		m.Op = matcherOp(sign.Text)
	}
	if m.Op == 0 {
		r.refuse(api.ErrSyntax)
	}
	r.at++
	value := r.next()
	if value.Kind != api.TString {
		r.refuse(api.ErrSyntax)
	}
	r.at++
	m.Value = value.Text
	return m
}
