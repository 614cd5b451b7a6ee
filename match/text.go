package match

import (
	"strings"

	"tocsin/api"
	"tocsin/labels"
)

// Print answers the text of several right matchers.
func Print(l []api.Matcher) (string, api.Errno, int) {
	if e, at := Right(l); e != api.OK {
		return "", e, at
	}
	in := make([]string, len(l))
	for i, m := range l {
		in[i] = m.Name + opText(m.Op) + quoted(m.Value)
	}
	return "{" + strings.Join(in, ",") + "}", api.OK, 0
}

// Parse reads the text of several matchers: else it tells what is at fault, and where, or of which matcher.
func Parse(s string) ([]api.Matcher, api.Errno, int) {
	if len(s) > api.MaxText {
		return nil, api.ErrSize, 0
	}
	l, e, at := read(s)
	if e == api.OK {
		e, at = Right(l)
	}
	if e != api.OK {
		return nil, e, at
	}
	return l, api.OK, 0
}

func opText(op int) string {
	switch op {
	case api.MEq:
		return "="
	case api.MNe:
		return "!="
	case api.MRe:
		return "=~"
	}
	return "!~"
}

func quoted(v string) string {
	var b strings.Builder
	b.WriteByte('"')
	for i := range len(v) {
		switch c := v[i]; c {
		case '\\', '"':
			b.WriteByte('\\')
			b.WriteByte(c)
		case '\n':
			b.WriteString(`\n`)
		default:
			b.WriteByte(c)
		}
	}
	b.WriteByte('"')
	return b.String()
}

// fault is what is thrown where a text can not be read: the place at which it can not go on.
type fault struct {
	at int
}

// reader reads a text, up to the place at.
type reader struct {
	s  string
	at int
}

// read reads all of s, whether its matchers are right or not.
func read(s string) (l []api.Matcher, e api.Errno, at int) {
	defer func() {
		switch thrown := recover().(type) {
		case nil:
		case fault:
			l, e, at = nil, api.ErrForm, thrown.at
		default:
			panic(thrown)
		}
	}()
	t := &reader{s: s}
	l = t.list()
	t.skipBlanks()
	if t.at < len(s) {
		t.refuse()
	}
	return l, api.OK, 0
}

func (t *reader) list() []api.Matcher {
	var l []api.Matcher
	t.need('{')
	for !t.take('}') {
		l = append(l, t.matcher())
		if !t.take(',') {
			t.need('}')
			break
		}
	}
	return l
}

func (t *reader) matcher() api.Matcher {
	var m api.Matcher
	m.Name = t.name()
	m.Op = t.op()
	m.Value = t.value()
	return m
}

// name reads a name; one that is none is told by its beginning.
func (t *reader) name() string {
	t.skipBlanks()
	to := t.at
	for to < len(t.s) && inName(t.s[to]) {
		to++
	}
	name := t.s[t.at:to]
	if !labels.Name(name) {
		t.refuse()
	}
	t.at = to
	return name
}

// op reads an operator, between whose signs no blank stands.
func (t *reader) op() int {
	switch {
	case t.take('='):
		if t.sign('~') {
			return api.MRe
		}
		return api.MEq
	case t.take('!'):
		if t.sign('~') {
			return api.MNre
		}
		if t.sign('=') {
			return api.MNe
		}
	}
	t.refuse()
	return 0
}

func (t *reader) value() string {
	t.need('"')
	var b strings.Builder
	for !t.sign('"') {
		b.WriteByte(t.nextByte())
	}
	return b.String()
}

// nextByte reads a byte of a value, or the two that stand for one.
func (t *reader) nextByte() byte {
	if t.at == len(t.s) {
		t.refuse()
	}
	c := t.s[t.at]
	if c == '\\' {
		c = t.escaped()
		t.at++
	}
	t.at++
	return c
}

// escaped tells what the \ at the place stands for together with the sign behind it.
func (t *reader) escaped() byte {
	if t.at+1 == len(t.s) {
		panic(fault{at: len(t.s)})
	}
	switch c := t.s[t.at+1]; c {
	case '\\', '"':
		return c
	case 'n':
		return '\n'
	}
	t.refuse()
	return 0
}

// need goes over blanks and the sign c, which must stand there.
func (t *reader) need(c byte) {
	if !t.take(c) {
		t.refuse()
	}
}

// take goes over blanks, and over the sign c, if it stands there.
func (t *reader) take(c byte) bool {
	t.skipBlanks()
	return t.sign(c)
}

// sign goes over the sign c, if it stands right here.
func (t *reader) sign(c byte) bool {
	if t.at == len(t.s) || t.s[t.at] != c {
		return false
	}
	t.at++
	return true
}

func (t *reader) skipBlanks() {
	for t.at < len(t.s) && (t.s[t.at] == ' ' || t.s[t.at] == '\t') {
		t.at++
	}
}

func (t *reader) refuse() {
	panic(fault{at: t.at})
}

func inName(c byte) bool {
	return c >= 'a' && c <= 'z' || c >= 'A' && c <= 'Z' || c >= '0' && c <= '9' || c == '_'
}
