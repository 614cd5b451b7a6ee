// Package http is layer 28: requests, answers, JSON. See shared/doc/28-http.md.
package http

import (
	"slices"
	"strings"

	"tocsin/api"
)

// maxRequest is how many bytes a request may have.
const maxRequest = api.MaxText + 32768

// lineEnd ends each line, of requests and of answers.
const lineEnd = "\r\n"

// version is what both speak.
const version = "HTTP/1.1"

// contentLength is the name of the header that tells how many bytes a body has.
const contentLength = "Content-Length"

// Pair is a name and a value.
type Pair struct {
	Name  string
	Value string
}

// Request is a request.
type Request struct {
	Method  string
	Path    string
	Query   []Pair
	Headers []Pair
	Body    string
}

// Parse reads a request: else it tells what is at fault, and where.
func Parse(b []byte) (Request, api.Errno, int) {
	if len(b) > maxRequest {
		return Request{}, api.ErrSize, 0
	}
	t := &reader{s: string(b)}
	if !t.line() || !t.headers() || !t.body() {
		return Request{}, api.ErrRequest, t.at
	}
	return t.r, api.OK, 0
}

// Print answers the bytes of a request that Parse can read.
func Print(r Request) ([]byte, api.Errno) {
	b := []byte(written(r))
	// What is written of a request that can not be is no request, or another one.
	if again, e, _ := Parse(b); e != api.OK || !same(again, r) {
		return nil, api.ErrRequest
	}
	return b, api.OK
}

// Get tells the value of the first pair of the query that has that name.
func (r Request) Get(name string) (string, bool) {
	return first(r.Query, func(p Pair) bool { return p.Name == name })
}

// Header tells the value of the header of that name, in any case of letters.
func (r Request) Header(name string) (string, bool) {
	return first(r.Headers, func(p Pair) bool { return sameName(p.Name, name) })
}

func first(l []Pair, is func(Pair) bool) (string, bool) {
	at := slices.IndexFunc(l, is)
	if at < 0 {
		return "", false
	}
	return l[at].Value, true
}

// written answers the bytes of any request, whether it can be or not.
func written(r Request) string {
	var b strings.Builder
	put := func(texts ...string) {
		for _, s := range texts {
			b.WriteString(s)
		}
	}
	put(r.Method, " ", r.Path)
	between := "?"
	for _, p := range r.Query {
		put(between, Escape(p.Name), "=", Escape(p.Value))
		between = "&"
	}
	put(" ", version, lineEnd)
	for _, h := range r.Headers {
		put(h.Name, ": ", h.Value, lineEnd)
	}
	put(lineEnd, r.Body)
	return b.String()
}

func same(a, b Request) bool {
	return a.Method == b.Method && a.Path == b.Path && slices.Equal(a.Query, b.Query) && slices.Equal(a.Headers, b.Headers) && a.Body == b.Body
}

// sameName: are two names the same, in any case of letters?
func sameName(a, b string) bool {
	if len(a) != len(b) {
		return false
	}
	for i := range len(a) {
		if small(a[i]) != small(b[i]) {
			return false
		}
	}
	return true
}

// small answers the small letter of a letter; all else is itself.
func small(c byte) byte {
	if c >= 'A' && c <= 'Z' {
		return c - 'A' + 'a'
	}
	return c
}
