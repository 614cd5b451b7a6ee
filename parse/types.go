package parse

import (
	"tocsin/api"
	"tocsin/labels"
	"tocsin/match"
)

// typed is what is known of a node: its type, and, of a string, what it says.
type typed struct {
	kind int
	text string
}

// Check answers the type of an expression; else it tells what is at fault, and of which node.
func Check(t api.Tree) (int, api.Errno, int) {
	if e := Right(t); e != api.OK {
		return 0, e, 0
	}
	known := make([]typed, 0, len(t.Nodes))
	for i, n := range t.Nodes {
		one, e := typeOf(n, known)
		if e != api.OK {
			return 0, e, i
		}
		known = append(known, one)
	}
	return known[len(known)-1].kind, api.OK, 0
}

// typeOf answers the type of a node, by what is known of those ahead of it.
func typeOf(n api.Node, known []typed) (typed, api.Errno) {
	one := typed{kind: api.VVector}
	ok := true
	switch n.Kind {
	case api.NNumber:
		one.kind = api.VScalar
	case api.NString:
		one = typed{kind: api.VString, text: n.Text}
	case api.NSelect:
		if n.Range > 0 {
			one.kind = api.VMatrix
		}
		return one, selects(n.Matchers)
	case api.NParen:
		one = known[n.A]
	case api.NNeg:
		one = known[n.A]
		ok = reckons(one)
	case api.NBinary:
		left, right := known[n.A], known[n.B]
		if isScalar(left) && isScalar(right) {
			one.kind = api.VScalar
		}
		ok = fitsOperator(n, left, right)
	case api.NAggr:
		ok = fitsAggregation(n, known)
	case api.NCall:
		kinds, kind, is := Kinds(n.Text)
		if !is {
			return one, api.ErrOp
		}
		one.kind = kind
		ok = fitsFunction(n, kinds, known)
	}
	if !ok {
		return one, api.ErrType
	}
	return one, api.OK
}

// selects: are the matchers right, and does one of them not match the empty value?
func selects(l []api.Matcher) api.Errno {
	list, e, _ := match.Compile(l)
	switch {
	case e != api.OK:
		return e
	case !list.Some():
		return api.ErrType
	}
	return api.OK
}

func isScalar(x typed) bool { return x.kind == api.VScalar }
func isVector(x typed) bool { return x.kind == api.VVector }

// isLabel: is it a string that says a label's name?
func isLabel(x typed) bool {
	return x.kind == api.VString && labels.Name(x.text)
}

// reckons: is it one of which operators reckon?
func reckons(x typed) bool {
	return isScalar(x) || isVector(x)
}

func fitsOperator(n api.Node, left, right typed) bool {
	m := n.Match
	isMatched := m.On || len(m.Labels) > 0 || m.Card == api.ManyToOne || m.Card == api.OneToMany
	switch {
	case !reckons(left) || !reckons(right):
		return false
	case isVector(left) && isVector(right):
		return !m.On || !common(m.Labels, m.Include)
	case isScalar(left) && isScalar(right) && isComparison(n.Op) && !n.Flag:
		return false
	}
	return !isMatched && !isOfSets(n.Op)
}

// common: is a text in both lists?
func common(a, b []string) bool {
	in := make(map[string]int, len(a))
	for _, s := range a {
		in[s]++
	}
	for _, s := range b {
		if in[s] > 0 {
			return true
		}
	}
	return false
}

func fitsAggregation(n api.Node, known []typed) bool {
	if !isVector(known[n.A]) {
		return false
	}
	switch n.Text {
	case "topk", "bottomk", "quantile":
		return n.B != none && isScalar(known[n.B])
	case "count_values":
		return n.B != none && isLabel(known[n.B])
	}
	return n.B == none
}

func fitsFunction(n api.Node, kinds []int, known []typed) bool {
	joins := n.Text == labelJoin
	if len(n.Args) < len(kinds) || len(n.Args) > len(kinds) && !joins {
		return false
	}
	for i, part := range n.Args {
		x := known[part]
		switch {
		case i < len(kinds) && x.kind != kinds[i]:
			return false
		case joins && i != ofVector && i != ofSeparator && !isLabel(x):
			return false
		}
	}
	return true
}
