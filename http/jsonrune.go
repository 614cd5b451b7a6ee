package http

import (
	"strings"
	"unicode/utf8"

	"tocsin/api"
)

// What stands behind a \ for one rune, and those runes.
const (
	escapes = `"\/bfnrt`
	escaped = "\"\\/\b\f\n\r\t"
)

// Runes of more than four hexadecimal digits are told by a pair of surrogates: a high one and a low one, with ten bits each.
const (
	firstHigh   = 0xd800
	firstLow    = 0xdc00
	behindLow   = 0xe000
	firstByPair = 0x10000
	pairBits    = 10
)

// rune reads a rune of a text.
func (t *jsonReader) rune() (rune, bool) {
	r, width := utf8.DecodeRuneInString(t.s[t.at:])
	switch {
	case r == utf8.RuneError && width < utf8.RuneLen(utf8.RuneError), r < ' ':
		// The end, no right UTF-8, or a byte that must be escaped.
		return 0, t.refuse(api.ErrJson, t.at)
	case r == '\\':
		return t.escape()
	}
	t.at += width
	return r, true
}

// escape reads a \ and what stands behind it. Where that can not be, the place of the \ is told; where it ends too early, the end.
func (t *jsonReader) escape() (rune, bool) {
	begin := t.at
	t.at++
	r, ok := t.behindEscape()
	switch {
	case ok:
		return r, true
	case t.at < len(t.s):
		return 0, t.refuse(api.ErrJson, begin)
	}
	return 0, t.refuse(api.ErrJson, t.at)
}

// behindEscape reads what stands behind a \, up to the first byte that can not be there.
func (t *jsonReader) behindEscape() (rune, bool) {
	if t.next() == 'u' {
		return t.byDigits()
	}
	at := strings.IndexByte(escapes, t.next())
	if at < 0 {
		return 0, false
	}
	t.at++
	return rune(escaped[at]), true
}

// byDigits reads the rune of a unit, or of two that are a pair of surrogates.
func (t *jsonReader) byDigits() (rune, bool) {
	begin := t.at
	r, ok := t.unit()
	if !ok || r < firstHigh || r >= behindLow {
		return r, ok
	}
	if r < firstLow {
		if !t.need(`\`) {
			return 0, false
		}
		low, ok := t.unit()
		if !ok {
			return 0, false
		}
		if low >= firstLow && low < behindLow {
			return firstByPair + (r-firstHigh)<<pairBits + (low - firstLow), true
		}
	}
	// However it goes on, it is alone.
	t.at = begin
	return 0, false
}

// unit reads u and four hexadecimal digits.
func (t *jsonReader) unit() (rune, bool) {
	if !t.need("u") {
		return 0, false
	}
	r := rune(0)
	for range 4 {
		d, ok := hexNumber(t.s[t.at:], 1)
		if !ok {
			return 0, false
		}
		r = 16*r + d
		t.at++
	}
	return r, true
}
