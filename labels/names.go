package labels

import "tocsin/api"

// metricName is the label whose value is a metric's name.
const metricName = "__name__"

// Name tells whether s is a right label's name.
func Name(s string) bool {
	return len(s) <= api.MaxName && isName(s, inName)
}

// Metric tells whether s is a metric's name.
func Metric(s string) bool {
	return len(s) <= api.MaxValue && isName(s, inMetric)
}

// isName: all signs of s are those of a name, and it does not begin with a digit.
func isName(s string, in func(byte) bool) bool {
	return s != "" && !isDigit(s[0]) && spanOf(s, in) == len(s)
}

// spanOf tells how many of the first bytes of s are in.
func spanOf(s string, in func(byte) bool) int {
	n := 0
	for n < len(s) && in(s[n]) {
		n++
	}
	return n
}

func inName(c byte) bool {
	return c >= 'a' && c <= 'z' || c >= 'A' && c <= 'Z' || c == '_' || isDigit(c)
}

func inMetric(c byte) bool {
	return inName(c) || c == ':'
}

func isDigit(c byte) bool {
	return c >= '0' && c <= '9'
}

func isBlank(c byte) bool {
	return c == ' ' || c == '\t'
}
