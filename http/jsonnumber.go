package http

import "strings"

// numberWidth answers how many bytes the number with which s begins has: 0, if it is none, or has no end.
func numberWidth(s string) int {
	at := 0
	if strings.HasPrefix(s, "-") {
		at++
	}
	whole := run(s[at:], isDigit)
	if strings.HasPrefix(whole, "0") {
		// What stands behind a 0 is of no number.
		whole = "0"
	}
	at += len(whole)
	fraction, ok := digitsBehind(s[at:], ".", "")
	at += fraction
	if whole == "" || !ok {
		return 0
	}
	exponent, ok := digitsBehind(s[at:], "eE", "+-")
	if !ok {
		return 0
	}
	return at + exponent
}

// digitsBehind answers how many bytes a sign of the first ones, perhaps one of the second ones, and digits have, with which s begins: 0, if no first one stands there; false, if the digits are missing.
func digitsBehind(s, first, second string) (int, bool) {
	if s == "" || strings.IndexByte(first, s[0]) < 0 {
		return 0, true
	}
	at := 1
	if at < len(s) && strings.IndexByte(second, s[at]) >= 0 {
		at++
	}
	digits := run(s[at:], isDigit)
	return at + len(digits), digits != ""
}
