package regex

import (
	"strings"

	"tocsin/api"
)

// kind is what a part of an expression is.
type kind int

const (
	plainRune   kind = iota // a rune, or an escaped sign
	controlRune             // \n, \r, \t
	runeSet                 // ., another escape, a class
	row                     // parts, one behind the other
	choice                  // rows, one of which is taken
	repeat                  // a part, again and again
)

// unbounded is the most times of a repeat that has no bound.
const unbounded = -1

// part is a part of an expression.
type part struct {
	kind   kind
	r      rune
	take   int // The number of what takes the rune.
	parts  []*part
	least  int
	most   int
	states int
}

// joined answers a row, or a choice, of parts.
func joined(k kind, parts []*part) *part {
	n := 0
	for _, p := range parts {
		n = atMost(n + p.states)
	}
	return &part{kind: k, parts: parts, states: n}
}

// repeated answers a repeat of p, which counts times times.
func repeated(p *part, least, most, times int) *part {
	return &part{kind: repeat, parts: []*part{p}, least: least, most: most, states: atMost(p.states*times + 1)}
}

// atMost keeps a number of states from growing beyond all bounds: how many too many there are is of no matter.
func atMost(n int) int {
	return min(n, api.MaxStates+1)
}

// literalOf tells the text of an expression that is runes alone.
func literalOf(whole *part) (string, bool) {
	if len(whole.parts) > 1 {
		return "", false
	}
	var b strings.Builder
	for _, p := range whole.parts[0].parts {
		if p.kind != plainRune && p.kind != controlRune {
			return "", false
		}
		b.WriteRune(p.r)
	}
	return b.String(), true
}

// prefixOf tells the runes and escaped signs with which an expression begins.
func prefixOf(whole *part) string {
	if len(whole.parts) > 1 {
		return ""
	}
	var b strings.Builder
	for _, p := range whole.parts[0].parts {
		if p.kind != plainRune {
			break
		}
		b.WriteRune(p.r)
	}
	return b.String()
}
