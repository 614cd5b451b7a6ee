package lex

import (
	"strings"
	"unicode/utf8"

	"tocsin/api"
)

const (
	lastPlain   = 126 // from the blank up to this one runes of one byte are told as they are
	belowEscape = 128 // no rune from here on is told by hexadecimal digits
	smallDigits = "0123456789abcdef"
)

// Quote answers the string that says s.
func Quote(s string) (string, api.Errno) {
	if !utf8.ValidString(s) {
		return "", api.ErrUtf
	}
	var b strings.Builder
	b.WriteByte('"')
	for _, r := range s {
		quoteRune(&b, r)
	}
	b.WriteByte('"')
	return b.String(), api.OK
}

func quoteRune(b *strings.Builder, r rune) {
	switch {
	case r == '\n':
		b.WriteString(`\n`)
	case r == '\t':
		b.WriteString(`\t`)
	case r == '\r':
		b.WriteString(`\r`)
	case r < ' ', r > lastPlain && r < belowEscape:
		b.WriteString(`\x`)
		b.WriteByte(smallDigits[r/16])
		b.WriteByte(smallDigits[r%16])
	case r == '\\', r == '"':
		b.WriteByte('\\')
		fallthrough
	default:
		b.WriteRune(r)
	}
}

// cutString answers what the string with which s begins says, and how many bytes that has: none, if it has no end, or a fault.
func cutString(s string) (string, int) {
	var b strings.Builder
	end, at := utf8.DecodeRuneInString(s)
reading:
	for {
		r, width := utf8.DecodeRuneInString(s[at:])
		switch {
		case r == end:
			at += width
			break reading
		case r == '\n', r == utf8.RuneError && width < utf8.RuneLen(utf8.RuneError):
			// A line's end, no right UTF-8, or the end of s.
			return "", 0
		case r == '\\':
			said, behind := escaped(s[at+width:])
			if behind == 0 {
				return "", 0
			}
			r = said
			width += behind
		}
		b.WriteRune(r)
		at += width
	}
	return b.String(), at
}

// escaped answers the rune for which that with which s begins stands behind a \, and how many bytes of s tell it: none, if none can.
func escaped(s string) (rune, int) {
	r, width := utf8.DecodeRuneInString(s)
	switch r {
	case 'x':
		return twoDigits(s)
	case 'n', 't', 'r':
		r = lineSign(r)
		fallthrough
	case '\\', '"', '\'':
		return r, width
	}
	return 0, 0
}

// lineSign answers the sign that a letter stands for.
func lineSign(letter rune) rune {
	switch letter {
	case 'n':
		return '\n'
	case 't':
		return '\t'
	}
	return '\r'
}

// twoDigits answers what x and two hexadecimal digits, with which s begins, say.
func twoDigits(s string) (rune, int) {
	if len(s) < 3 {
		return 0, 0
	}
	high, isHigh := hexDigit(rune(s[1]))
	low, isLow := hexDigit(rune(s[2]))
	value := rune(16*high + low)
	if !isHigh || !isLow || value >= belowEscape {
		return 0, 0
	}
	return value, 3
}
