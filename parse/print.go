package parse

import (
	"math"
	"strings"

	"tocsin/api"
	"tocsin/expo"
	"tocsin/lex"
)

// writer writes the texts of nodes behind one another.
type writer struct {
	nodes []api.Node
	text  strings.Builder
}

// written answers the text of nodes that are a tree, whatever else stands in them.
func written(nodes []api.Node) string {
	w := &writer{nodes: nodes}
	w.node(len(nodes) - 1)
	return w.text.String()
}

func (w *writer) put(texts ...string) {
	for _, s := range texts {
		w.text.WriteString(s)
	}
}

func (w *writer) node(i int) {
	switch n := w.nodes[i]; n.Kind {
	case api.NNumber:
		w.put(numberText(n.Num))
	case api.NString:
		w.put(quoted(n.Text))
	case api.NSelect:
		w.selector(n)
	case api.NNeg:
		w.put("-")
		w.node(n.A)
	case api.NBinary:
		w.node(n.A)
		w.operator(n)
		w.node(n.B)
	case api.NAggr:
		w.put(n.Text)
		w.grouping(n)
		w.arguments(parts(n))
	case api.NCall:
		w.put(n.Text)
		fallthrough
	case api.NParen:
		w.arguments(parts(n))
	}
}

// numberText answers the number's text. A number with a - ahead is another tree's.
func numberText(v float64) string {
	if math.IsInf(v, 1) {
		return "Inf"
	}
	return expo.Text(v)
}

// quoted answers the string that says s: nothing, if none can.
func quoted(s string) string {
	text, _ := lex.Quote(s)
	return text
}

func spanText(n int64) string {
	text, _ := lex.SpanText(n)
	return text
}

func (w *writer) selector(n api.Node) {
	l := n.Matchers
	ahead := isNameAhead(l)
	if ahead {
		w.put(l[0].Value)
		l = l[1:]
	}
	if !ahead || len(l) > 0 {
		w.put("{")
		for i, m := range l {
			if i > 0 {
				w.put(",")
			}
			w.put(m.Name, matcherSign(m.Op), quoted(m.Value))
		}
		w.put("}")
	}
	if n.Range != 0 {
		w.put("[", spanText(n.Range), "]")
	}
	if n.Offset != 0 {
		w.put(" offset ", spanText(n.Offset))
	}
}

// isNameAhead: does the first matcher stand as a name ahead of the others?
func isNameAhead(l []api.Matcher) bool {
	if len(l) == 0 || l[0].Name != metricName || l[0].Op != api.MEq || !isMetric(l[0].Value) {
		return false
	}
	for _, m := range l[1:] {
		if m.Name == metricName {
			return false
		}
	}
	return true
}

// operator writes an operator and what stands behind it, with blanks about all.
func (w *writer) operator(n api.Node) {
	m := n.Match
	groups := m.Card == api.ManyToOne || m.Card == api.OneToMany
	w.put(" ", Op(n.Op))
	if n.Flag {
		w.put(" bool")
	}
	switch {
	case m.On:
		w.put(" on ")
		w.names(m.Labels)
	case groups || len(m.Labels) > 0:
		w.put(" ignoring ")
		w.names(m.Labels)
	}
	if groups {
		w.put(groupText(m.Card))
		w.names(m.Include)
	}
	w.put(" ")
}

func groupText(card int) string {
	if card == api.ManyToOne {
		return " group_left "
	}
	return " group_right "
}

// grouping writes by what is aggregated.
func (w *writer) grouping(n api.Node) {
	switch {
	case n.Flag:
		w.put(" without ")
	case len(n.By) > 0:
		w.put(" by ")
	default:
		return
	}
	w.names(n.By)
	w.put(" ")
}

func (w *writer) names(l []string) {
	w.put("(", strings.Join(l, ", "), ")")
}

func (w *writer) arguments(l []int) {
	w.put("(")
	for i, part := range l {
		if i > 0 {
			w.put(", ")
		}
		w.node(part)
	}
	w.put(")")
}
