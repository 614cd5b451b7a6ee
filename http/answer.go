package http

import (
	"strconv"
	"strings"

	"tocsin/api"
)

// maxKind is how many bytes the kind of an answer's body may have.
const maxKind = 64

// What stands in an answer ahead of its code, its kind, and its body's length.
const (
	aheadOfCode   = version + " "
	aheadOfKind   = lineEnd + "Content-Type: "
	aheadOfLength = lineEnd + contentLength + ": "
	aheadOfBody   = lineEnd + lineEnd
)

// Answer answers the bytes of an answer.
func Answer(code int, kind, body string) ([]byte, api.Errno) {
	words, is := Words(code)
	switch {
	case !is:
		return nil, api.ErrArg
	case !isKind(kind):
		return nil, api.ErrForm
	case len(body) > api.MaxFile:
		return nil, api.ErrSize
	}
	ahead := aheadOfCode + strconv.Itoa(code) + " " + words + aheadOfKind + kind + aheadOfLength + strconv.Itoa(len(body)) + aheadOfBody
	return append([]byte(ahead), body...), api.OK
}

// Read reads an answer as Answer writes it: its code, its kind, its body.
func Read(b []byte) (int, string, string, api.Errno) {
	s := string(b)
	line, rest, _ := strings.Cut(s, aheadOfKind)
	kind, rest, _ := strings.Cut(rest, aheadOfLength)
	_, body, _ := strings.Cut(rest, aheadOfBody)
	digits, _, _ := strings.Cut(strings.TrimPrefix(line, aheadOfCode), " ")
	code, _ := strconv.Atoi(digits)
	// Whatever was cut: an answer is just what is written of its parts.
	if again, e := Answer(code, kind, body); e != api.OK || string(again) != s {
		return 0, "", "", api.ErrRequest
	}
	return code, kind, body, api.OK
}

// Words tells what a code says.
func Words(code int) (string, bool) {
	switch code {
	case 200:
		return "OK", true
	case 204:
		return "No Content", true
	case 400:
		return "Bad Request", true
	case 404:
		return "Not Found", true
	case 405:
		return "Method Not Allowed", true
	case 409:
		return "Conflict", true
	case 413:
		return "Content Too Large", true
	case 422:
		return "Unprocessable Entity", true
	case 500:
		return "Internal Server Error", true
	case 503:
		return "Service Unavailable", true
	}
	return "", false
}

func isKind(s string) bool {
	isOfKind := func(c byte) bool { return c >= ' ' && c <= '~' }
	return s != "" && len(s) <= maxKind && run(s, isOfKind) == s && strings.Trim(s, " ") == s
}
