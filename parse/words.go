package parse

import (
	"math"

	"tocsin/api"
)

const (
	metricName = "__name__"         // the label that is a metric's name
	theNaN     = 0x7ff8000000000001 // its bits
)

// How strongly operators bind, from the weakest on. Signs ahead of an expression bind more strongly than products, and less than powers.
const (
	bindsOr = iota
	bindsAnd
	bindsComparison
	bindsSum
	bindsProduct
	bindsPower
)

// Op answers a binary operator's text.
func Op(op int) string {
	switch op {
	case api.OAdd:
		return "+"
	case api.OSub:
		return "-"
	case api.OMul:
		return "*"
	case api.ODiv:
		return "/"
	case api.OMod:
		return "%"
	case api.OPow:
		return "^"
	case api.OEq:
		return "=="
	case api.ONe:
		return "!="
	case api.OGt:
		return ">"
	case api.OLt:
		return "<"
	case api.OGe:
		return ">="
	case api.OLe:
		return "<="
	case api.OAnd:
		return "and"
	case api.OOr:
		return "or"
	case api.OUnless:
		return "unless"
	}
	return ""
}

// opOf answers the binary operator that a token is: 0, if it is none.
func opOf(t api.Token) int {
	if t.Kind != api.TSign && t.Kind != api.TIdent {
		return 0
	}
	for op := api.OAdd; op <= api.OUnless; op++ {
		if Op(op) == t.Text {
			return op
		}
	}
	return 0
}

func binds(op int) int {
	switch op {
	case api.OAdd, api.OSub:
		return bindsSum
	case api.OMul, api.ODiv, api.OMod:
		return bindsProduct
	case api.OPow:
		return bindsPower
	case api.OAnd, api.OUnless:
		return bindsAnd
	case api.OOr:
		return bindsOr
	}
	return bindsComparison
}

func isComparison(op int) bool {
	return op >= api.OEq && op <= api.OLe
}

// isOfSets: is it and, or, unless?
func isOfSets(op int) bool {
	return op >= api.OAnd && op <= api.OUnless
}

func isReserved(word string) bool {
	switch word {
	case "and", "or", "unless", "bool", "on", "ignoring", "group_left", "group_right", "by", "without", "offset":
		return true
	}
	return false
}

func isAggregation(word string) bool {
	switch word {
	case "sum", "avg", "min", "max", "count", "group", "stddev", "stdvar", "topk", "bottomk", "quantile", "count_values":
		return true
	}
	return false
}

// numberOf answers the number that a word is.
func numberOf(word string) (float64, bool) {
	switch word {
	case "Inf", "inf":
		return math.Inf(1), true
	case "NaN", "nan":
		return math.Float64frombits(theNaN), true
	}
	return 0, false
}

// isMetric: is s read as a metric's name, where it stands alone?
func isMetric(s string) bool {
	for i, r := range s {
		switch {
		case r >= 'a' && r <= 'z', r >= 'A' && r <= 'Z', r == '_', r == ':':
		case r >= '0' && r <= '9' && i > 0:
		default:
			return false
		}
	}
	_, isNumber := numberOf(s)
	return s != "" && !isReserved(s) && !isNumber
}

// matcherOp answers the operator of matchers that a sign is: 0, if it is none.
func matcherOp(sign string) int {
	for op := api.MEq; op <= api.MNre; op++ {
		if matcherSign(op) == sign {
			return op
		}
	}
	return 0
}

func matcherSign(op int) string {
	switch op {
	case api.MEq:
		return "="
	case api.MNe:
		return "!="
	case api.MRe:
		return "=~"
	case api.MNre:
		return "!~"
	}
	return ""
}
