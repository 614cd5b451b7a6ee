package expo

import (
	"iter"
	"strings"

	"tocsin/api"
	"tocsin/labels"
)

const blanks = " \t"

// maxTimeDigits is how many digits a time may have.
const maxTimeDigits = 16

// The kinds of what lines say.
const (
	saysNothing = iota
	saysSample
	saysMeta
)

// said is what a line says.
type said struct {
	kind   int
	sample Sample
	meta   Meta
}

// readLine reads a line: false, if it is none.
func readLine(s string) (said, bool) {
	if strings.Contains(s, "\n") {
		return said{}, false
	}
	s = strings.TrimLeft(s, blanks)
	if s == "" {
		return said{}, true
	}
	if behind, remark := strings.CutPrefix(s, "#"); remark {
		return readRemark(behind)
	}
	sample, ok := readSample(s)
	if !ok {
		return said{}, false
	}
	return said{kind: saysSample, sample: sample}, true
}

// readRemark reads what stands behind the sign #.
func readRemark(s string) (said, bool) {
	word, rest := cutWord(s)
	if strings.HasPrefix(s, word) {
		// The sign # does not stand alone, or nothing stands behind it.
		return said{}, true
	}
	m := Meta{Kind: word}
	m.Name, rest = cutWord(rest)
	switch word {
	case "TYPE":
		m.Text, rest = cutWord(rest)
		if !isType(m.Text) || strings.Trim(rest, blanks) != "" {
			return said{}, false
		}
	case "HELP":
		m.Text = unescaped(strings.TrimLeft(rest, blanks))
	default:
		return said{}, true
	}
	if !labels.Metric(m.Name) {
		return said{}, false
	}
	return said{kind: saysMeta, meta: m}, true
}

func isType(word string) bool {
	switch word {
	case "counter", "gauge", "histogram", "summary", "untyped":
		return true
	}
	return false
}

// unescaped answers what a text says in which \\ stands for \, and \n for a byte 10. It goes by bytes: these may be no right UTF-8.
func unescaped(s string) string {
	var b strings.Builder
	for i := 0; i < len(s); i++ {
		c := s[i]
		switch {
		case strings.HasPrefix(s[i:], `\\`):
			i++
		case strings.HasPrefix(s[i:], `\n`):
			i++
			c = '\n'
		}
		b.WriteByte(c)
	}
	return b.String()
}

// readSample reads a metric's name, perhaps labels, a value, perhaps a time.
func readSample(s string) (Sample, bool) {
	set, rest, ok := cutLabels(s)
	if !ok {
		return Sample{}, false
	}
	out := Sample{Labels: set, T: -1}
	whole := false
reading:
	for i, word := range words(rest) {
		whole = false
		switch i {
		case 0:
			v, e := Float(word)
			if e != api.OK {
				break reading
			}
			out.V = v
		case 1:
			t, ok := readTime(word)
			if !ok {
				break reading
			}
			out.T = t
		default:
			break reading
		}
		whole = true
	}
	if !whole {
		return Sample{}, false
	}
	return out, true
}

// cutLabels reads the metric's name and the labels with which s begins, and answers what stands behind them.
func cutLabels(s string) ([]api.Label, string, bool) {
	end := nameEnd(s)
	name, rest := s[:end], strings.TrimLeft(s[end:], blanks)
	if !labels.Metric(name) {
		return nil, "", false
	}
	end = 0
	if strings.HasPrefix(rest, "{") {
		end = bracesEnd(rest)
	}
	// With the name ahead of the braces, one more in them is refused.
	set, e, _ := labels.Parse(name + rest[:end])
	return set, rest[end:], e == api.OK
}

// nameEnd tells how many bytes of s, from its first on, are those of a metric's name.
func nameEnd(s string) int {
	for i, r := range s {
		switch {
		case r >= 'a' && r <= 'z', r >= 'A' && r <= 'Z', r >= '0' && r <= '9', r == '_', r == ':':
		default:
			return i
		}
	}
	return len(s)
}

// bracesEnd tells the place behind the } that ends the braces with which s begins: the first one that is not in a label's value; the length of s, if there is none.
func bracesEnd(s string) int {
	inValue, escaped := false, false
	for i, r := range s {
		switch {
		case escaped:
			escaped = false
		case inValue && r == '\\':
			escaped = true
		case r == '"':
			inValue = !inValue
		case r == '}' && !inValue:
			return i + 1
		}
	}
	return len(s)
}

// readTime reads decimal digits, a time.
func readTime(s string) (int64, bool) {
	if len(s) > maxTimeDigits || !allDigits(s) {
		return 0, false
	}
	t := int64(0)
	for _, r := range s {
		t = 10*t + int64(r-'0')
	}
	return t, t <= api.MaxTime
}

// words tells what stands between blanks, and its numbers.
func words(s string) iter.Seq2[int, string] {
	return func(yield func(int, string) bool) {
		word, rest := cutWord(s)
		for n := 0; word != ""; n++ {
			if !yield(n, word) {
				return
			}
			word, rest = cutWord(rest)
		}
	}
}

// cutWord answers the first word of s, empty, if there is none, and what stands behind it.
func cutWord(s string) (string, string) {
	s = strings.TrimLeft(s, blanks)
	if end := strings.IndexAny(s, blanks); end >= 0 {
		return s[:end], s[end:]
	}
	return s, ""
}
