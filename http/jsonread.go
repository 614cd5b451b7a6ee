package http

import (
	"math"
	"strings"

	"tocsin/api"
	"tocsin/decimal"
)

// jsonBlanks are those that may stand between the parts of a JSON text.
const jsonBlanks = " \t\n\r"

// maxNumber is how many bytes a number may have.
const maxNumber = 64

// jsonReader reads a JSON text, up to the place at.
type jsonReader struct {
	s     string
	at    int
	e     api.Errno // what is at fault, if anything is
	place int       // and where
}

// refuse tells what is at fault, and is false.
func (t *jsonReader) refuse(e api.Errno, place int) bool {
	t.e, t.place = e, place
	return false
}

// value reads a value within so many open brackets.
func (t *jsonReader) value(open int) (api.Json, bool) {
	t.blanks()
	switch c := t.next(); {
	case c == '[', c == '{':
		return t.holder(open)
	case c == '"':
		text, ok := t.text()
		return api.Json{Kind: api.JText, Text: text}, ok
	case c == 'n':
		return api.Json{Kind: api.JNull}, t.need("null")
	case c == 't':
		return api.Json{Kind: api.JBool, Bool: true}, t.need("true")
	case c == 'f':
		return api.Json{Kind: api.JBool}, t.need("false")
	case c == '-', isDigit(c):
		return t.number()
	}
	return api.Json{}, t.refuse(api.ErrJson, t.at)
}

// holder reads a list or an object, within so many open brackets.
func (t *jsonReader) holder(open int) (api.Json, bool) {
	if open == api.MaxNest {
		return api.Json{}, t.refuse(api.ErrDeep, t.at)
	}
	j, end := api.Json{Kind: api.JList}, "]"
	if t.next() == '{' {
		j, end = api.Json{Kind: api.JObject}, "}"
	}
	t.at++
	t.blanks()
	names := map[string]struct{}{}
	for first := true; !t.skip(end); first = false {
		if !first && !t.need(",") || j.Kind == api.JObject && !t.name(&j, names) {
			return api.Json{}, false
		}
		x, ok := t.value(open + 1)
		if !ok {
			return api.Json{}, false
		}
		j.List = append(j.List, x)
		t.blanks()
	}
	return j, true
}

// name reads the name of one more member, which is none of those that are there, and the sign behind it.
func (t *jsonReader) name(j *api.Json, names map[string]struct{}) bool {
	t.blanks()
	begin := t.at
	name, ok := t.text()
	if !ok {
		return false
	}
	if _, twice := names[name]; twice {
		return t.refuse(api.ErrTwice, begin)
	}
	names[name] = struct{}{}
	j.Names = append(j.Names, name)
	t.blanks()
	return t.need(":")
}

func (t *jsonReader) text() (string, bool) {
	if !t.need(`"`) {
		return "", false
	}
	var b strings.Builder
	for !t.skip(`"`) {
		r, ok := t.rune()
		if !ok {
			return "", false
		}
		b.WriteRune(r)
	}
	return b.String(), true
}

func (t *jsonReader) number() (api.Json, bool) {
	width := numberWidth(t.s[t.at:])
	if width == 0 || width > maxNumber {
		return api.Json{}, t.refuse(api.ErrJson, t.at)
	}
	digits, minus := strings.CutPrefix(t.s[t.at:t.at+width], "-")
	v := decimal.Read(digits)
	switch {
	case math.IsInf(v, 0):
		return api.Json{}, t.refuse(api.ErrLarge, t.at)
	case minus:
		v = -v
	}
	t.at += width
	return api.Json{Kind: api.JNumber, Num: v}, true
}

func (t *jsonReader) blanks() {
	for t.at < len(t.s) && strings.IndexByte(jsonBlanks, t.s[t.at]) >= 0 {
		t.at++
	}
}

// next answers the byte that stands there; behind the end a 0, which begins nothing.
func (t *jsonReader) next() byte {
	if t.at == len(t.s) {
		return 0
	}
	return t.s[t.at]
}

// skip goes over a sign, if it stands there.
func (t *jsonReader) skip(sign string) bool {
	there := strings.HasPrefix(t.s[t.at:], sign)
	if there {
		t.at += len(sign)
	}
	return there
}

// need goes over a word, and refuses the first byte that is another one.
func (t *jsonReader) need(word string) bool {
	for i := range len(word) {
		if t.next() != word[i] {
			return t.refuse(api.ErrJson, t.at)
		}
		t.at++
	}
	return true
}
