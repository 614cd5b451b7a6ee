package http

import (
	"strconv"
	"strings"
	"unicode/utf8"

	"tocsin/api"
)

const greatDigits = "0123456789ABCDEF"

// Escape answers s as it stands in a query.
func Escape(s string) string {
	var b strings.Builder
	for i := range len(s) {
		c := s[i]
		if isPlain(c) {
			b.WriteByte(c)
			continue
		}
		b.WriteByte('%')
		b.WriteByte(greatDigits[c/16])
		b.WriteByte(greatDigits[c%16])
	}
	return b.String()
}

// Unescape answers what a name, or a value, of a query says.
func Unescape(s string) (string, api.Errno) {
	var b strings.Builder
	for at := 0; at < len(s); at++ {
		c := s[at]
		switch {
		case isPlain(c):
		case c == '+':
			c = ' '
		case c == '%':
			said, ok := hexNumber(s[at+1:], 2)
			if !ok {
				return "", api.ErrForm
			}
			c = byte(said)
			at += 2
		default:
			return "", api.ErrForm
		}
		b.WriteByte(c)
	}
	if !utf8.ValidString(b.String()) {
		return "", api.ErrUtf
	}
	return b.String(), api.OK
}

// isPlain: does the byte stand for itself in a query?
func isPlain(c byte) bool {
	return isLetter(c) || isDigit(c) || strings.IndexByte("._-~", c) >= 0
}

// hexNumber answers what so many hexadecimal digits, with which s begins, say.
func hexNumber(s string, digits int) (rune, bool) {
	if len(s) < digits {
		return 0, false
	}
	n, err := strconv.ParseUint(s[:digits], 16, 16)
	return rune(n), err == nil
}
