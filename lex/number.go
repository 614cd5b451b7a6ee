package lex

import (
	"strings"

	"tocsin/api"
	"tocsin/decimal"
)

// The form of hexadecimal numbers.
const (
	digitBits   = 4    // bits of a digit
	wordBits    = 64   // bits that are rounded together
	greatestBit = 1024 // two to this is too large for every float64
)

// Number reads a number.
func Number(s string) (float64, api.Errno) {
	if !isJust(api.TNumber, s) {
		return 0, api.ErrToken
	}
	if hexWidth(s) > 0 {
		return hexValue(s[2:]), api.OK
	}
	return decimal.Read(s), api.OK
}

// cutNumber answers the number or the duration with which s begins, whichever is longer.
func cutNumber(s string) (api.Token, int) {
	kind, width := api.TNumber, numberWidth(s)
	if _, span := cutSpan(s); span > width {
		kind, width = api.TSpan, span
	}
	// What goes on as a word or a number would is none.
	if wordWidth(s[width:]) > 0 || strings.HasPrefix(s[width:], ".") {
		return api.Token{}, 0
	}
	return api.Token{Kind: kind, Text: s[:width]}, width
}

// numberWidth tells how many bytes the longest number with which s begins has.
func numberWidth(s string) int {
	if width := hexWidth(s); width > 0 {
		return width
	}
	ahead := digitsWidth(s)
	width, digits := ahead, ahead
	if strings.HasPrefix(s[ahead:], ".") {
		behind := digitsWidth(s[ahead+1:])
		width += 1 + behind
		digits += behind
	}
	if digits == 0 {
		return 0
	}
	return width + exponentWidth(s[width:])
}

func hexWidth(s string) int {
	if !strings.HasPrefix(s, "0x") && !strings.HasPrefix(s, "0X") {
		return 0
	}
	for i, r := range s[2:] {
		if _, ok := hexDigit(r); !ok {
			return behindX(i)
		}
	}
	return behindX(len(s) - 2)
}

// behindX tells how many bytes a hexadecimal number with so many digits has: none, if it has no digits.
func behindX(digits int) int {
	if digits == 0 {
		return 0
	}
	return 2 + digits
}

func digitsWidth(s string) int {
	for i, r := range s {
		if !isDigit(r) {
			return i
		}
	}
	return len(s)
}

// exponentWidth tells how many bytes the exponent with which s begins has: none, if there is none.
func exponentWidth(s string) int {
	if !strings.HasPrefix(s, "e") && !strings.HasPrefix(s, "E") {
		return 0
	}
	sign := 0
	if strings.HasPrefix(s[1:], "+") || strings.HasPrefix(s[1:], "-") {
		sign = 1
	}
	digits := digitsWidth(s[1+sign:])
	if digits == 0 {
		return 0
	}
	return 1 + sign + digits
}

func hexDigit(r rune) (uint64, bool) {
	switch {
	case isDigit(r):
		return uint64(r - '0'), true
	case r >= 'a' && r <= 'f':
		return uint64(r-'a') + 10, true
	case r >= 'A' && r <= 'F':
		return uint64(r-'A') + 10, true
	}
	return 0, false
}

// hexValue answers the whole number that hexadecimal digits say, as the nearest float64, ties to even.
func hexValue(s string) float64 {
	s = strings.TrimLeft(s, "0")
	first, left := uint64(0), 0
	for i, r := range s {
		d, _ := hexDigit(r)
		switch {
		case i < wordBits/digitBits:
			first = first<<digitBits | d
		case d > 0:
			// The lowest bit lies below those that a float keeps, and tells that more stands behind it.
			first |= 1
			fallthrough
		default:
			left++
		}
	}
	v := float64(first)
	for range min(left, greatestBit/digitBits) {
		v *= 1 << digitBits
	}
	return v
}
