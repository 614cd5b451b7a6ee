package eval

import (
	"math"
	"slices"
	"strconv"
	"strings"

	"tocsin/api"
	"tocsin/expo"
	"tocsin/labels"
	"tocsin/lex"
	"tocsin/vec"
)

// Show answers a value's text.
func Show(v api.Value) (string, api.Errno) {
	s, e := "", api.OK
	switch v.Kind {
	case api.VScalar:
		s = expo.Text(v.V)
	case api.VString:
		s, e = lex.Quote(v.Text)
	case api.VVector:
		s, e = lines(v.Points, func(p api.Point) []api.Label { return p.Labels }, pointText)
	case api.VMatrix:
		s, e = lines(v.Series, func(x api.Series) []api.Label { return x.Labels }, samplesText)
	default:
		e = api.ErrArg
	}
	switch {
	case e != api.OK:
		return "", e
	case len(s) > api.MaxText:
		return "", api.ErrSize
	}
	return s, api.OK
}

func pointText(p api.Point) string {
	return " " + expo.Text(p.V)
}

func samplesText(s api.Series) string {
	var b strings.Builder
	for _, x := range s.Samples {
		b.WriteString(" " + expo.Text(x.V) + "@" + strconv.FormatInt(x.T, 10))
		if b.Len() > api.MaxText {
			break // it is too long already
		}
	}
	return b.String()
}

// lines answers a line for each item: its labels' text, and the rest. Behind more than MaxText bytes only faults of labels are still looked for.
func lines[T any](l []T, set func(T) []api.Label, rest func(T) string) (string, api.Errno) {
	var b strings.Builder
	for i, x := range l {
		s, e := labels.Print(set(x))
		if e != api.OK {
			return "", e
		}
		if b.Len() > api.MaxText {
			continue
		}
		if i > 0 {
			b.WriteString("\n")
		}
		b.WriteString(s + rest(x))
	}
	return b.String(), api.OK
}

// Same tells whether two values are alike, in what their kind has, by the bits of floats.
func Same(a, b api.Value) bool {
	if a.Kind != b.Kind {
		return false
	}
	switch a.Kind {
	case api.VScalar:
		return sameBits(a.V, b.V)
	case api.VString:
		return a.Text == b.Text
	case api.VVector:
		return vec.Same(a.Points, b.Points)
	case api.VMatrix:
		return slices.EqualFunc(a.Series, b.Series, sameSeries)
	}
	return true
}

func sameBits(a, b float64) bool {
	return math.Float64bits(a) == math.Float64bits(b)
}

func sameSeries(a, b api.Series) bool {
	return slices.Equal(a.Labels, b.Labels) && slices.EqualFunc(a.Samples, b.Samples, func(x, y api.Sample) bool {
		return x.T == y.T && sameBits(x.V, y.V)
	})
}
