package regex

import (
	"strings"
	"unicode/utf8"

	"tocsin/api"
)

// fault is what is thrown where an expression can not be read.
type fault struct {
	e  api.Errno
	at int
}

// reader reads an expression, up to the place at.
type reader struct {
	s     string
	at    int
	open  int // How many parentheses are open.
	takes []func(rune) bool
}

// read answers the choice that the whole of s is, and what takes its runes.
func read(s string) (whole *part, takes []func(rune) bool, f fault) {
	defer func() {
		switch thrown := recover().(type) {
		case nil:
		case fault:
			whole, takes, f = nil, nil, thrown
		default:
			panic(thrown)
		}
	}()
	t := &reader{s: s}
	whole = t.choice()
	if t.at < len(s) {
		// A choice ends ahead of a parenthesis that closes: here none is open.
		t.refuse(t.at)
	}
	return whole, t.takes, fault{}
}

func (t *reader) choice() *part {
	rows := []*part{t.row()}
	for t.skip('|') {
		rows = append(rows, t.row())
	}
	return joined(choice, rows)
}

func (t *reader) row() *part {
	var parts []*part
	for t.at < len(t.s) && t.s[t.at] != '|' && t.s[t.at] != ')' {
		parts = append(parts, t.repeats(t.thing()))
	}
	return joined(row, parts)
}

// thing reads what a repeat may stand behind.
func (t *reader) thing() *part {
	switch c := t.s[t.at]; {
	case c == '(':
		return t.group()
	case c == '[':
		return t.one(set(t.class()))
	case c == '\\':
		return t.one(t.escape())
	case c == '.':
		t.at++
		return t.one(set(not(is('\n'))))
	case strings.IndexByte(signs, c) >= 0:
		t.refuse(t.at)
	}
	return t.one(plain(t.nextRune()))
}

func (t *reader) group() *part {
	if t.open == api.MaxNest {
		panic(fault{e: api.ErrDeep, at: t.at})
	}
	t.open++
	t.need('(')
	if t.skip('?') {
		t.need(':')
	}
	p := t.choice()
	t.need(')')
	t.open--
	return p
}

// repeats reads the repeat behind a thing, if there is one. Another one behind it is no thing, and refused as such.
func (t *reader) repeats(p *part) *part {
	switch {
	case t.skip('*'):
		return repeated(p, 0, unbounded, 1)
	case t.skip('+'):
		return repeated(p, 1, unbounded, 1)
	case t.skip('?'):
		return repeated(p, 0, 1, 1)
	case t.at < len(t.s) && t.s[t.at] == '{':
		least, most := t.braces()
		if most == unbounded {
			return repeated(p, least, most, least+1)
		}
		return repeated(p, least, most, most)
	}
	return p
}

func (t *reader) braces() (least, most int) {
	open := t.at
	t.need('{')
	least = t.number(open)
	most = least
	if t.skip(',') {
		most = unbounded
		if t.ahead(0) != '}' {
			most = t.number(open)
		}
	}
	if t.ahead(0) != '}' || most != unbounded && most < least {
		t.refuse(open)
	}
	t.need('}')
	return least, most
}

// number reads one digit, or two, of the braces that open at the place open.
func (t *reader) number(open int) int {
	c := t.ahead(0)
	if !isDigit(rune(c)) {
		t.refuse(open)
	}
	t.at++
	n := int(c - '0')
	if c = t.ahead(0); isDigit(rune(c)) {
		t.at++
		n = n*10 + int(c-'0')
	}
	return n
}

// escape reads a \ and what stands behind it.
func (t *reader) escape() sign {
	one, ok := behindBackslash(t.ahead(1))
	if !ok {
		t.refuse(t.at)
	}
	t.at += 2
	return one
}

func (t *reader) one(x sign) *part {
	t.takes = append(t.takes, x.take)
	return &part{kind: x.kind, r: x.r, take: len(t.takes) - 1, states: 1}
}

func (t *reader) nextRune() rune {
	r, n := utf8.DecodeRuneInString(t.s[t.at:])
	t.at += n
	return r
}

// ahead tells the byte that stands n places further on; there must be one.
func (t *reader) ahead(n int) byte {
	if t.at+n >= len(t.s) {
		t.refuse(len(t.s))
	}
	return t.s[t.at+n]
}

func (t *reader) need(c byte) {
	if t.ahead(0) != c {
		t.refuse(t.at)
	}
	t.at++
}

// skip goes over the byte c, if it stands there.
func (t *reader) skip(c byte) bool {
	if t.at == len(t.s) || t.s[t.at] != c {
		return false
	}
	t.at++
	return true
}

func (t *reader) refuse(at int) {
	panic(fault{e: api.ErrRegex, at: at})
}
