package labels

import (
	"strings"

	"tocsin/api"
)

// Print answers the text of a right label set.
func Print(l []api.Label) (string, api.Errno) {
	if e, _ := Right(l); e != api.OK {
		return "", e
	}
	ahead := Get(l, metricName)
	if !Metric(ahead) {
		// A value that is no metric's name can not stand ahead: it goes into the braces as any other.
		ahead = ""
	}
	var in []string
	for _, one := range l {
		if one.Name != metricName || ahead == "" {
			in = append(in, one.Name+"="+quoted(one.Value))
		}
	}
	if ahead != "" && len(in) == 0 {
		return ahead, api.OK
	}
	return ahead + "{" + strings.Join(in, ",") + "}", api.OK
}

// Parse reads the text of a label set: else it tells what is at fault, and where, or in which label.
func Parse(s string) ([]api.Label, api.Errno, int) {
	if len(s) > api.MaxText {
		return nil, api.ErrSize, 0
	}
	t := &text{s: s}
	all, ok := t.set()
	if !ok {
		return nil, api.ErrForm, t.at
	}
	return made(all)
}

func quoted(value string) string {
	var b strings.Builder
	b.WriteByte('"')
	for i := range len(value) {
		switch c := value[i]; c {
		case '\\', '"':
			b.WriteByte('\\')
			b.WriteByte(c)
		case '\n':
			b.WriteString("\\n")
		default:
			b.WriteByte(c)
		}
	}
	b.WriteByte('"')
	return b.String()
}

// text is what is read, up to the place at; where a part can not be read, that place is where it can not go on.
type text struct {
	s  string
	at int
}

// set reads all of the text: a name ahead, labels in braces, or both.
func (t *text) set() ([]api.Label, bool) {
	var all []api.Label
	t.skipBlanks()
	name := t.word(inMetric)
	if name != "" {
		if !Metric(name) {
			return nil, false
		}
		all = append(all, api.Label{Name: metricName, Value: name})
		t.at += len(name)
	}
	if t.take('{') {
		in, ok := t.labels()
		if !ok {
			return nil, false
		}
		return append(all, in...), t.ended()
	}
	return all, name != "" && t.ended()
}

// labels reads what stands behind the brace that opens, and the one that closes.
func (t *text) labels() ([]api.Label, bool) {
	var in []api.Label
	for !t.take('}') {
		one, ok := t.label()
		if !ok {
			return nil, false
		}
		in = append(in, one)
		if !t.take(',') {
			return in, t.take('}')
		}
	}
	return in, true
}

// label reads a name, =, and a value; blanks ahead have been gone over.
func (t *text) label() (api.Label, bool) {
	name := t.word(inName)
	if !Name(name) {
		return api.Label{}, false
	}
	t.at += len(name)
	if !t.take('=') || !t.take('"') {
		return api.Label{}, false
	}
	value, ok := t.value()
	return api.Label{Name: name, Value: value}, ok
}

// value reads what stands behind the sign " that opens, and the one that closes.
func (t *text) value() (string, bool) {
	var b strings.Builder
	for t.at < len(t.s) {
		c := t.s[t.at]
		switch c {
		case '"':
			t.at++
			return b.String(), true
		case '\\':
			var ok bool
			if c, ok = t.escaped(); !ok {
				return "", false
			}
			t.at++
		}
		b.WriteByte(c)
		t.at++
	}
	return "", false
}

// escaped tells what the \ at the place stands for together with the sign behind it.
func (t *text) escaped() (byte, bool) {
	if t.at+1 == len(t.s) {
		// The text ends too early, which is told as its length, and not as a \ with a wrong sign behind it.
		t.at++
		return 0, false
	}
	switch c := t.s[t.at+1]; c {
	case '\\', '"':
		return c, true
	case 'n':
		return '\n', true
	}
	return 0, false
}

// word tells the signs of a name that stand at the place, which stays: a name that is none is told by its beginning.
func (t *text) word(in func(byte) bool) string {
	rest := t.s[t.at:]
	return rest[:spanOf(rest, in)]
}

// take goes over blanks, and over the sign c, if it stands there.
func (t *text) take(c byte) bool {
	t.skipBlanks()
	if t.at == len(t.s) || t.s[t.at] != c {
		return false
	}
	t.at++
	return true
}

func (t *text) ended() bool {
	t.skipBlanks()
	return t.at == len(t.s)
}

func (t *text) skipBlanks() {
	t.at += spanOf(t.s[t.at:], isBlank)
}
