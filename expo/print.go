package expo

import (
	"strconv"
	"strings"
	"unicode/utf8"

	"tocsin/api"
	"tocsin/labels"
)

// Print answers the text of what is said of metrics, and of samples; else it tells what is at fault, and the number of which of them.
func Print(l []Sample, m []Meta) (string, api.Errno, int) {
	for i, one := range m {
		if e := rightMeta(one); e != api.OK {
			return "", e, i
		}
	}
	for i, one := range l {
		if e := rightSample(one); e != api.OK {
			return "", e, i
		}
	}
	s, ok := printed(l, m)
	if !ok {
		return "", api.ErrSize, 0
	}
	return s, api.OK, 0
}

func rightMeta(m Meta) api.Errno {
	switch {
	case !labels.Metric(m.Name):
		return api.ErrName
	case m.Kind != "TYPE" && m.Kind != "HELP":
		return api.ErrOp
	case m.Kind == "TYPE" && !isType(m.Text):
		return api.ErrOp
	case !utf8.ValidString(m.Text):
		return api.ErrUtf
	}
	return api.OK
}

func rightSample(s Sample) api.Errno {
	e, _ := labels.Right(s.Labels)
	switch {
	case e != api.OK:
		return e
	case !labels.Metric(labels.Get(s.Labels, "__name__")):
		return api.ErrName
	case s.T < -1 || s.T > api.MaxTime:
		return api.ErrArg
	}
	return api.OK
}

// printed answers the text of what is all right: false, if that is too long.
func printed(l []Sample, m []Meta) (string, bool) {
	var b strings.Builder
	for _, one := range m {
		b.WriteString(metaLine(one))
		if b.Len() > api.MaxText {
			return "", false
		}
	}
	for _, one := range l {
		b.WriteString(sampleLine(one))
		if b.Len() > api.MaxText {
			return "", false
		}
	}
	return b.String(), true
}

func metaLine(m Meta) string {
	line := "# " + m.Kind + " " + m.Name
	if m.Text != "" {
		line += " " + escaped(m.Text)
	}
	return line + "\n"
}

// escaped answers the text in which no byte 10 is left, and which is read as s.
func escaped(s string) string {
	var b strings.Builder
	for _, r := range s {
		switch r {
		case '\\':
			b.WriteString(`\\`)
		case '\n':
			b.WriteString(`\n`)
		default:
			b.WriteRune(r)
		}
	}
	return b.String()
}

func sampleLine(s Sample) string {
	line, _ := labels.Print(s.Labels)
	line += " " + Text(s.V)
	if s.T >= 0 {
		line += " " + strconv.FormatInt(s.T, 10)
	}
	return line + "\n"
}
