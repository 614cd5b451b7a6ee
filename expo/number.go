package expo

import (
	"math"
	"strings"

	"tocsin/api"
	"tocsin/decimal"
)

const (
	maxValueText      = 64                 // bytes of a value
	maxExponentDigits = 4                  // digits of a value's exponent
	theNaN            = 0x7ff8000000000001 // its bits
)

// Float reads a value.
func Float(s string) (float64, api.Errno) {
	switch s {
	case "NaN":
		return math.Float64frombits(theNaN), api.OK
	case "Inf", "+Inf":
		return math.Inf(1), api.OK
	case "-Inf":
		return math.Inf(-1), api.OK
	}
	n, ok := readNumber(s)
	if !ok {
		return 0, api.ErrForm
	}
	v := decimal.Nearest(n.digits, n.exponent)
	if n.minus {
		v = -v
	}
	return v, api.OK
}

// number is its digits times ten to the exponent.
type number struct {
	minus    bool
	digits   string
	exponent int
}

// readNumber reads a sign, digits with a point, and an exponent: false, if s is none.
func readNumber(s string) (number, bool) {
	if len(s) > maxValueText {
		return number{}, false
	}
	s, minus := cutSign(s)
	exponent := 0
	if at := strings.IndexAny(s, "eE"); at >= 0 {
		var ok bool
		if exponent, ok = readExponent(s[at+1:]); !ok {
			return number{}, false
		}
		s = s[:at]
	}
	ahead, behind, _ := strings.Cut(s, ".")
	digits := ahead + behind
	if !allDigits(digits) {
		return number{}, false
	}
	return number{minus: minus, digits: digits, exponent: exponent - len(behind)}, true
}

func readExponent(s string) (int, bool) {
	s, minus := cutSign(s)
	if len(s) > maxExponentDigits || !allDigits(s) {
		return 0, false
	}
	n := 0
	for _, r := range s {
		n = 10*n + int(r-'0')
	}
	if minus {
		n = -n
	}
	return n, true
}

// cutSign answers s without the sign ahead of it, and whether that is a minus.
func cutSign(s string) (string, bool) {
	if rest, minus := strings.CutPrefix(s, "-"); minus {
		return rest, true
	}
	return strings.TrimPrefix(s, "+"), false
}

// allDigits: is s one decimal digit, or more?
func allDigits(s string) bool {
	for _, r := range s {
		if r < '0' || r > '9' {
			return false
		}
	}
	return s != ""
}

// Text answers the shortest text that is read as v.
func Text(v float64) string {
	return decimal.Text(v)
}
