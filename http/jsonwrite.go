package http

import (
	"math"
	"slices"
	"strings"
	"unicode/utf8"

	"tocsin/api"
	"tocsin/decimal"
	"tocsin/jsontext"
)

// jsonWriter writes values behind one another.
type jsonWriter struct {
	text strings.Builder
}

// value writes a value within so many others, or answers the first error.
func (w *jsonWriter) value(j api.Json, open int) api.Errno {
	holds := j.Kind == api.JList || j.Kind == api.JObject
	switch {
	case w.text.Len() > api.MaxFile:
		return api.ErrSize
	case !isRight(j):
		return api.ErrJson
	case holds && open == api.MaxNest:
		return api.ErrDeep
	case holds:
		return w.holder(j, open)
	}
	w.text.WriteString(plainText(j))
	return api.OK
}

// holder writes a list or an object, and all that it holds.
func (w *jsonWriter) holder(j api.Json, open int) api.Errno {
	begin, end := "[", "]"
	if j.Kind == api.JObject {
		begin, end = "{", "}"
	}
	w.text.WriteString(begin)
	for i, x := range j.List {
		if i > 0 {
			w.text.WriteByte(',')
		}
		if j.Kind == api.JObject {
			w.text.WriteString(jsontext.Quote(j.Names[i]) + ":")
		}
		if e := w.value(x, open+1); e != api.OK {
			return e
		}
	}
	w.text.WriteString(end)
	return api.OK
}

// plainText answers the text of a value that holds no others.
func plainText(j api.Json) string {
	switch {
	case j.Kind == api.JNumber:
		return decimal.Text(j.Num)
	case j.Kind == api.JText:
		return jsontext.Quote(j.Text)
	case j.Bool:
		return "true"
	case j.Kind == api.JBool:
		return "false"
	}
	return "null"
}

// isRight: is it one of the kinds, what it holds aside?
func isRight(j api.Json) bool {
	switch j.Kind {
	case api.JNull, api.JBool, api.JNumber, api.JText, api.JList:
		return hasNoMore(j) && isFinite(j.Num) && utf8.ValidString(j.Text)
	case api.JObject:
		return hasNoMore(j) && len(j.Names) == len(j.List) && rightNames(j.Names)
	}
	return false
}

// hasNoMore: has it nothing that its kind has not? (A minus zero is something: it is not read as it was written.)
func hasNoMore(j api.Json) bool {
	return (j.Kind == api.JBool || !j.Bool) &&
		(j.Kind == api.JNumber || math.Float64bits(j.Num) == 0) &&
		(j.Kind == api.JText || j.Text == "") &&
		(j.Kind == api.JObject || len(j.Names) == 0) &&
		(j.Kind == api.JObject || j.Kind == api.JList || len(j.List) == 0)
}

func isFinite(v float64) bool {
	return !math.IsNaN(v) && !math.IsInf(v, 0)
}

// rightNames: are all right UTF-8, and none there twice?
func rightNames(l []string) bool {
	rising := slices.Sorted(slices.Values(l))
	for i, name := range rising {
		if !utf8.ValidString(name) || i > 0 && name == rising[i-1] {
			return false
		}
	}
	return true
}
