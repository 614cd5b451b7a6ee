package decimal

import (
	"math"
	"strconv"
	"strings"
)

// Numbers with exponents from the one to the other are written without them.
const (
	leastPlain    = -6
	greatestPlain = 20
)

// farthest is beyond every exponent that matters, with as many digits ahead of it as a text can have.
const farthest = 1 << 40

// Read answers the float64 that is nearest to what s says, which is digits, with perhaps a point among them or about them, and perhaps an exponent.
func Read(s string) float64 {
	exponent := 0
	if at := strings.IndexAny(s, "eE"); at >= 0 {
		exponent = exponentOf(s[at+1:])
		s = s[:at]
	}
	ahead, behind, _ := strings.Cut(s, ".")
	return Nearest(ahead+behind, exponent-len(behind))
}

// exponentOf answers what a sign, perhaps, and digits say, but nothing beyond farthest.
func exponentOf(s string) int {
	n, minus := 0, false
	for _, r := range s {
		switch r {
		case '-':
			minus = true
		case '+':
		default:
			n = min(10*n+int(r-'0'), farthest)
		}
	}
	if minus {
		return -n
	}
	return n
}

// Text answers the shortest text that is read as v.
func Text(v float64) string {
	switch {
	case math.IsNaN(v):
		return "NaN"
	case math.IsInf(v, 1):
		return "+Inf"
	case math.IsInf(v, -1):
		return "-Inf"
	}
	sign := ""
	if math.Signbit(v) {
		sign = "-"
	}
	digits, exponent := Shortest(v)
	if exponent < leastPlain || exponent > greatestPlain {
		return sign + scientific(digits, exponent)
	}
	return sign + plain(digits, exponent)
}

// plain answers the number whose first digit stands for ten to the exponent, with a point where one is needed.
func plain(digits string, exponent int) string {
	ahead := exponent + 1 // so many digits stand ahead of the point
	switch {
	case ahead <= 0:
		return "0." + strings.Repeat("0", -ahead) + digits
	case ahead >= len(digits):
		return digits + strings.Repeat("0", ahead-len(digits))
	}
	return digits[:ahead] + "." + digits[ahead:]
}

// scientific answers the same number as d.ddde+XX.
func scientific(digits string, exponent int) string {
	sign := "e+"
	if exponent < 0 {
		sign = "e-"
		exponent = -exponent
	}
	if exponent < 10 {
		sign += "0"
	}
	return plain(digits, 0) + sign + strconv.Itoa(exponent)
}
