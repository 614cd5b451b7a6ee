package lex

import (
	"strconv"
	"strings"

	"tocsin/api"
)

// unit is a unit of durations, and its milliseconds.
type unit struct {
	text string
	each int64
}

// units: the greatest first.
var units = [...]unit{
	{"y", 31536000000},
	{"w", 604800000},
	{"d", 86400000},
	{"h", 3600000},
	{"m", 60000},
	{"s", 1000},
	{"ms", 1},
}

// tooLong stands for every number of milliseconds that is too large.
const tooLong = api.MaxSpan + 1

// Span reads a duration: its milliseconds.
func Span(s string) (int64, api.Errno) {
	if !isJust(api.TSpan, s) {
		return 0, api.ErrToken
	}
	n, _ := cutSpan(s)
	if n > api.MaxSpan {
		return 0, api.ErrLarge
	}
	return n, api.OK
}

// SpanText answers the duration of so many milliseconds.
func SpanText(n int64) (string, api.Errno) {
	switch {
	case n < 0, n > api.MaxSpan:
		return "", api.ErrArg
	case n == 0:
		return "0s", api.OK
	}
	var b strings.Builder
	for _, u := range units {
		if times := n / u.each; times > 0 {
			b.WriteString(strconv.FormatInt(times, 10) + u.text)
			n -= times * u.each
		}
	}
	return b.String(), api.OK
}

// cutSpan answers the milliseconds, but none beyond tooLong, of the longest duration with which s begins, and how many bytes that has.
func cutSpan(s string) (int64, int) {
	n, width := int64(0), 0
	from := 0 // the first unit that may stand yet
reading:
	for {
		digits := s[width : width+digitsWidth(s[width:])]
		if digits == "" {
			break
		}
		rest := s[width+len(digits):]
		// From the last on, since ms begins as m does.
		for i := len(units) - 1; i >= from; i-- {
			if u := units[i]; strings.HasPrefix(rest, u.text) {
				n = min(n+times(digits, u.each), tooLong)
				width += len(digits) + len(u.text)
				from = i + 1
				continue reading
			}
		}
		break
	}
	return n, width
}

// times answers what decimal digits say, times each, but nothing beyond tooLong.
func times(digits string, each int64) int64 {
	n := int64(0)
	for _, r := range digits {
		n = min(10*n+int64(r-'0'), tooLong)
	}
	if n > api.MaxSpan/each {
		return tooLong
	}
	return n * each
}
