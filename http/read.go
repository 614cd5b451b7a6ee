package http

import (
	"slices"
	"strconv"
	"strings"

	"tocsin/api"
)

const (
	maxPath        = 256  // bytes of a path
	maxPairs       = 64   // pairs of a query
	maxHeaders     = 32   // header lines
	maxHeaderName  = 64   // bytes of a header's name
	maxHeaderValue = 1024 // bytes of a header's value
)

// blanks are those that may stand about a header's value.
const blanks = " \t"

// reader reads a request, up to the place at; where a part can not be, it stays there.
type reader struct {
	s    string
	at   int
	r    Request
	size int // how many bytes the body has
}

// line reads the line of the request.
func (t *reader) line() bool {
	return t.method() && t.skip(" ") && t.target() && t.skip(" ") && t.version() && t.skip(lineEnd)
}

func (t *reader) method() bool {
	word := t.word()
	switch word {
	case "GET", "POST", "PUT", "DELETE":
		t.r.Method = word
		t.at += len(word)
		return true
	}
	return false
}

func (t *reader) target() bool {
	word := t.word()
	path, query, _ := strings.Cut(word, "?")
	pairs, ok := readQuery(query)
	if !ok || !isPath(path) {
		return false
	}
	t.r.Path, t.r.Query = path, pairs
	t.at += len(word)
	return true
}

func (t *reader) version() bool {
	return t.word() == version && t.skip(version)
}

// headers reads the header lines, and the empty line behind them.
func (t *reader) headers() bool {
	ended := false
lines:
	for {
		if strings.HasPrefix(t.s[t.at:], "\r") {
			ended = t.skip(lineEnd)
			break lines
		}
		var h Pair
		for _, read := range []func(*Pair) bool{t.headerName, t.headerValue} {
			if !read(&h) {
				break lines
			}
		}
		t.r.Headers = append(t.r.Headers, h)
	}
	return ended
}

// headerName reads the name of one more header, and the sign behind it.
func (t *reader) headerName(h *Pair) bool {
	name := run(t.s[t.at:], isOfName)
	twice := func(other Pair) bool { return sameName(other.Name, name) }
	switch {
	case name == "", len(name) > maxHeaderName, len(t.r.Headers) == maxHeaders, slices.ContainsFunc(t.r.Headers, twice):
		return false
	}
	h.Name = name
	t.at += len(name)
	return t.skip(":")
}

// headerValue reads the value of a header, and the end of its line.
func (t *reader) headerValue(h *Pair) bool {
	t.at += len(run(t.s[t.at:], isBlank))
	rest := run(t.s[t.at:], isOfValue)
	h.Value = strings.TrimRight(rest, blanks)
	if len(h.Value) > maxHeaderValue || sameName(h.Name, contentLength) && !t.readSize(h.Value) {
		return false
	}
	t.at += len(rest)
	return t.skip(lineEnd)
}

// readSize reads how many bytes the body has.
func (t *reader) readSize(s string) bool {
	if s == "" || run(s, isDigit) != s {
		return false
	}
	n, err := strconv.Atoi(s)
	t.size = n
	return err == nil && n <= api.MaxText
}

// body reads all that is left.
func (t *reader) body() bool {
	left := len(t.s) - t.at
	t.r.Body = t.s[t.at:]
	t.at += min(left, t.size)
	return left == t.size
}

// word answers the bytes up to the next blank, end of a line, or the end.
func (t *reader) word() string {
	return run(t.s[t.at:], func(c byte) bool { return c != ' ' && c != '\r' && c != '\n' })
}

// skip goes over these bytes, up to the first that is another one.
func (t *reader) skip(bytes string) bool {
	for i := range len(bytes) {
		if t.at == len(t.s) || t.s[t.at] != bytes[i] {
			return false
		}
		t.at++
	}
	return true
}

// readQuery reads the pairs of a query.
func readQuery(s string) ([]Pair, bool) {
	if s == "" {
		return nil, true
	}
	var l []Pair
	for _, one := range strings.Split(s, "&") {
		p, ok := readPair(one)
		if !ok || len(l) == maxPairs {
			return nil, false
		}
		l = append(l, p)
	}
	return l, true
}

func readPair(s string) (Pair, bool) {
	name, value, ok := strings.Cut(s, "=")
	if !ok {
		return Pair{}, false
	}
	name, e := Unescape(name)
	if e != api.OK {
		return Pair{}, false
	}
	value, e = Unescape(value)
	return Pair{Name: name, Value: value}, e == api.OK
}

func isPath(s string) bool {
	isOfPath := func(c byte) bool { return c == '/' || isPlain(c) }
	return strings.HasPrefix(s, "/") && len(s) <= maxPath && run(s, isOfPath) == s
}

// run answers the bytes that are all such, with which s begins.
func run(s string, is func(byte) bool) string {
	for i := range len(s) {
		if !is(s[i]) {
			return s[:i]
		}
	}
	return s
}

func isDigit(c byte) bool {
	return c >= '0' && c <= '9'
}

func isLetter(c byte) bool {
	return small(c) >= 'a' && small(c) <= 'z'
}

func isBlank(c byte) bool {
	return strings.IndexByte(blanks, c) >= 0
}

func isOfName(c byte) bool {
	return isLetter(c) || isDigit(c) || c == '-'
}

func isOfValue(c byte) bool {
	return c >= ' ' && c <= '~' || c == '\t'
}
