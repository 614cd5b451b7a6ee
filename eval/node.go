package eval

import (
	"math"

	"tocsin/aggr"
	"tocsin/api"
	"tocsin/store"
	"tocsin/vec"
)

// node is a node of an expression.
type node interface {
	// comesTo answers its value, when all nodes ahead of it have theirs.
	comesTo(r *run) (api.Value, api.Errno)
}

type (
	number   struct{ v float64 }
	text     struct{ s string }
	selector struct {
		matchers     []api.Matcher
		span, offset int64 // span 0: without a range
	}
	paren       struct{ part int }
	minus       struct{ part int }
	operator    struct{ n api.Node }
	aggregation struct{ n api.Node }
	call        struct {
		of   function
		args []int
	}
)

// nodesOf answers the nodes of a tree that parse.Check has taken.
func nodesOf(t api.Tree) []node {
	out := make([]node, 0, len(t.Nodes))
	for _, n := range t.Nodes {
		out = append(out, nodeOf(n))
	}
	return out
}

func nodeOf(n api.Node) node {
	switch n.Kind {
	case api.NNumber:
		return number{n.Num}
	case api.NString:
		return text{n.Text}
	case api.NSelect:
		return selector{matchers: n.Matchers, span: n.Range, offset: n.Offset}
	case api.NParen:
		return paren{n.A}
	case api.NNeg:
		return minus{n.A}
	case api.NBinary:
		return operator{n}
	case api.NAggr:
		return aggregation{n}
	}
	return call{of: functionOf(n.Text), args: n.Args}
}

// run is an expression that is being reckoned at a time.
type run struct {
	store        *store.Store
	at, lookback int64
	nodes        []node
	values       []api.Value // of the nodes so far
	read         int         // how many samples selectors have read
}

// reckon answers the value of the last node.
func reckon(s *store.Store, nodes []node, at, lookback int64) (api.Value, api.Errno) {
	r := &run{store: s, at: at, lookback: lookback, nodes: nodes}
	for _, n := range nodes {
		v, e := n.comesTo(r)
		if e != api.OK {
			return api.Value{}, e
		}
		r.values = append(r.values, v)
	}
	return r.values[len(r.values)-1], api.OK
}

// selectorOf answers the selector that a node is, through parentheses.
func (r *run) selectorOf(at int) (selector, bool) {
	for {
		switch x := r.nodes[at].(type) {
		case selector:
			return x, true
		case paren:
			at = x.part
		default:
			return selector{}, false
		}
	}
}

func scalar(v float64) api.Value {
	return api.Value{Kind: api.VScalar, V: v}
}

// vector answers the value of points that may be at fault.
func vector(points []api.Point, e api.Errno) (api.Value, api.Errno) {
	if e != api.OK {
		return api.Value{}, e
	}
	return api.Value{Kind: api.VVector, Points: points}, api.OK
}

// told answers v, and the NaN for each other one that is no number.
func told(v float64) float64 {
	if math.IsNaN(v) {
		return math.Float64frombits(store.NaN)
	}
	return v
}

func (n number) comesTo(*run) (api.Value, api.Errno) {
	return scalar(n.v), api.OK
}

func (n text) comesTo(*run) (api.Value, api.Errno) {
	return api.Value{Kind: api.VString, Text: n.s}, api.OK
}

func (n paren) comesTo(r *run) (api.Value, api.Errno) {
	return r.values[n.part], api.OK
}

func (n minus) comesTo(r *run) (api.Value, api.Errno) {
	part := r.values[n.part]
	if part.Kind == api.VScalar {
		return scalar(told(-part.V)), api.OK
	}
	return vector(vec.Neg(part.Points))
}

func (x operator) comesTo(r *run) (api.Value, api.Errno) {
	n := x.n
	a, b := r.values[n.A], r.values[n.B]
	switch {
	case a.Kind == api.VScalar && b.Kind == api.VScalar:
		return scalar(ofScalars(n.Op, a.V, b.V)), api.OK
	case a.Kind == api.VScalar:
		return vector(vec.Left(n.Op, a.V, b.Points, n.Flag))
	case b.Kind == api.VScalar:
		return vector(vec.Right(n.Op, a.Points, b.V, n.Flag))
	}
	return vector(vec.Binary(n.Op, a.Points, b.Points, n.Match, n.Flag))
}

// ofScalars answers what an operator, with bool where it compares, makes of two numbers.
func ofScalars(op int, a, b float64) float64 {
	if v, e := vec.Arith(op, a, b); e == api.OK {
		return v
	}
	if holds, _ := vec.Holds(op, a, b); holds {
		return 1
	}
	return 0
}

func (x aggregation) comesTo(r *run) (api.Value, api.Errno) {
	n := x.n
	points := r.values[n.A].Points
	var param api.Value
	if n.B >= 0 {
		param = r.values[n.B]
	}
	if param.Kind == api.VString {
		return vector(aggr.Values(points, n.By, n.Flag, param.Text))
	}
	return vector(aggr.Number(n.Text, points, n.By, n.Flag, param.V))
}

func (n call) comesTo(r *run) (api.Value, api.Errno) {
	return n.of.value(asked{run: r, args: n.args})
}
