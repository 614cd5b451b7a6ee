package http

import "tocsin/api"

// ReadJson reads a JSON text: else it tells what is at fault, and where.
func ReadJson(s string) (api.Json, api.Errno, int) {
	if len(s) > api.MaxText {
		return api.Json{}, api.ErrSize, 0
	}
	t := &jsonReader{s: s}
	j, ok := t.value(0)
	t.blanks()
	switch {
	case !ok:
		return api.Json{}, t.e, t.place
	case t.at < len(s):
		return api.Json{}, api.ErrJson, t.at
	}
	return j, api.OK, 0
}

// WriteJson answers the text of a JSON value: else the first error from the left.
func WriteJson(j api.Json) (string, api.Errno) {
	var w jsonWriter
	e := w.value(j, 0)
	switch {
	case e != api.OK:
		return "", e
	case w.text.Len() > api.MaxFile:
		return "", api.ErrSize
	}
	return w.text.String(), api.OK
}

// Same tells whether two can be written, and have the same text.
func Same(a, b api.Json) bool {
	x, e := WriteJson(a)
	if e != api.OK {
		return false
	}
	y, e := WriteJson(b)
	return e == api.OK && x == y
}
