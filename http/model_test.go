package http

import (
	"fmt"
	"math"
	"math/rand"
	"regexp"
	"slices"
	"strconv"
	"strings"
	"testing"
	"unicode/utf16"
	"unicode/utf8"

	"tocsin/api"
)

// requestModel goes by the words of the chapter, part by part, each cut by an expression.
type requestModel struct {
	s  string
	at int
	r  Request
}

var (
	toBlank     = regexp.MustCompile("^[^ \r\n]*")
	aMethod     = regexp.MustCompile("^(GET|POST|PUT|DELETE)$")
	aTarget     = regexp.MustCompile(`^(/[A-Za-z0-9/._~-]{0,255})(\?(.*))?$`)
	aPair       = regexp.MustCompile(`^((?:[A-Za-z0-9._~+-]|%[0-9A-Fa-f]{2})*)=((?:[A-Za-z0-9._~+-]|%[0-9A-Fa-f]{2})*)$`)
	aHeaderName = regexp.MustCompile("^[A-Za-z0-9-]*")
	aValue      = regexp.MustCompile("^[ -~\t]*")
)

func (m *requestModel) cut(e *regexp.Regexp) string { return e.FindString(m.s[m.at:]) }

// over goes over one byte.
func (m *requestModel) over(c byte) bool {
	if m.at < len(m.s) && m.s[m.at] == c {
		m.at++
		return true
	}
	return false
}

func unescapeModel(s string) (string, bool) {
	out := regexp.MustCompile(`%..|\+`).ReplaceAllStringFunc(s, func(x string) string {
		if x == "+" {
			return " "
		}
		n, _ := strconv.ParseUint(x[1:], 16, 8)
		return string([]byte{byte(n)})
	})
	return out, utf8.ValidString(out)
}

func targetModel(s string) (string, []Pair, bool) {
	m := aTarget.FindStringSubmatch(s)
	if m == nil {
		return "", nil, false
	}
	var l []Pair
	if m[3] != "" {
		all := strings.Split(m[3], "&")
		if len(all) > 64 {
			return "", nil, false
		}
		for _, one := range all {
			p := aPair.FindStringSubmatch(one)
			if p == nil {
				return "", nil, false
			}
			name, ok := unescapeModel(p[1])
			value, too := unescapeModel(p[2])
			if !ok || !too {
				return "", nil, false
			}
			l = append(l, Pair{name, value})
		}
	}
	return m[1], l, true
}

func (m *requestModel) line() bool {
	m.r.Method = m.cut(toBlank)
	if !aMethod.MatchString(m.r.Method) {
		return false
	}
	m.at += len(m.r.Method)
	if !m.over(' ') {
		return false
	}
	target := m.cut(toBlank)
	var ok bool
	if m.r.Path, m.r.Query, ok = targetModel(target); !ok {
		return false
	}
	m.at += len(target)
	if !m.over(' ') {
		return false
	}
	if m.cut(toBlank) != "HTTP/1.1" {
		return false
	}
	m.at += 8
	return m.over('\r') && m.over('\n')
}

// rest reads the headers and the body.
func (m *requestModel) rest() bool {
	size := 0
	for !m.over('\r') {
		name := m.cut(aHeaderName)
		if len(name) < 1 || len(name) > 64 || len(m.r.Headers) == 32 {
			return false
		}
		for _, h := range m.r.Headers {
			if strings.ToLower(h.Name) == strings.ToLower(name) {
				return false
			}
		}
		m.at += len(name)
		if !m.over(':') {
			return false
		}
		for m.over(' ') || m.over('\t') {
		}
		rest := m.cut(aValue)
		value := strings.TrimRight(rest, " \t")
		if len(value) > 1024 {
			return false
		}
		if strings.ToLower(name) == "content-length" {
			if !regexp.MustCompile("^[0-9]+$").MatchString(value) {
				return false
			}
			n, err := strconv.Atoi(value)
			if err != nil || n > 65536 {
				return false
			}
			size = n
		}
		m.at += len(rest)
		if !m.over('\r') || !m.over('\n') {
			return false
		}
		m.r.Headers = append(m.r.Headers, Pair{name, value})
	}
	if !m.over('\n') {
		return false
	}
	if len(m.s)-m.at < size {
		m.at = len(m.s)
		return false
	}
	m.r.Body = m.s[m.at : m.at+size]
	m.at += size
	return m.at == len(m.s)
}

func parseModel(b []byte) (Request, api.Errno, int) {
	if len(b) > 65536+32768 {
		return Request{}, api.ErrSize, 0
	}
	m := &requestModel{s: string(b)}
	if !m.line() || !m.rest() {
		return Request{}, api.ErrRequest, m.at
	}
	return m.r, api.OK, 0
}

// isNoRequest: is it the zero value?
func isNoRequest(r Request) bool {
	return r.Method == "" && r.Path == "" && r.Query == nil && r.Headers == nil && r.Body == ""
}

// checkParse holds Parse against its model.
func checkParse(t *testing.T, s string) (Request, bool) {
	t.Helper()
	b := []byte(s)
	r, e, at := Parse(b)
	want, wantE, wantAt := parseModel([]byte(s))
	if e != wantE || at != wantAt || !same(r, want) || e != api.OK && !isNoRequest(r) {
		t.Errorf("Parse(%.300q): %.300q, %d, %d; want %.300q, %d, %d", s, fmt.Sprint(r), e, at, fmt.Sprint(want), wantE, wantAt)
	}
	if string(b) != s {
		t.Error("changed", s)
	}
	return r, e == api.OK
}

// jsonModel reads a text with a stack of its own, token by token.
type jsonModel struct {
	s     string
	at    int
	stack []*api.Json
	root  api.Json
	e     api.Errno
	place int
}

var (
	aNumber  = regexp.MustCompile(`^-?(0|[1-9][0-9]*)(\.[0-9]+)?([eE][+-]?[0-9]+)?`)
	anEscape = regexp.MustCompile(`^\\(["\\/bfnrt]|u[dD][89abAB][0-9a-fA-F]{2}\\u[dD][c-fC-F][0-9a-fA-F]{2}|u([0-9a-cefA-CEF][0-9a-fA-F]{3}|[dD][0-7][0-9a-fA-F]{2}))`)
	cutShort = regexp.MustCompile(`^\\(u[0-9a-fA-F]{0,3}|u[dD][89abAB][0-9a-fA-F]{2}(\\(u[0-9a-fA-F]{0,3})?)?)?$`)
)

func (m *jsonModel) fail(e api.Errno, at int) bool {
	m.e, m.place = e, at
	return false
}

func (m *jsonModel) blanks() {
	for m.at < len(m.s) && strings.Contains(" \t\r\n", m.s[m.at:m.at+1]) {
		m.at++
	}
}

func (m *jsonModel) sign() string {
	if m.at == len(m.s) {
		return ""
	}
	return m.s[m.at : m.at+1]
}

func (m *jsonModel) text() (string, bool) {
	if m.sign() != `"` {
		return "", m.fail(api.ErrJson, m.at)
	}
	var out []byte
	for m.at++; m.sign() != `"`; {
		rest := m.s[m.at:]
		r, n := utf8.DecodeRuneInString(rest)
		switch {
		case rest == "", rest[0] < 32, r == utf8.RuneError && n == 1:
			return "", m.fail(api.ErrJson, m.at)
		case rest[0] != '\\':
			out = append(out, rest[:n]...)
			m.at += n
		case anEscape.MatchString(rest):
			x := anEscape.FindString(rest)
			out = append(out, escapeModel(x)...)
			m.at += len(x)
		case cutShort.MatchString(rest):
			return "", m.fail(api.ErrJson, len(m.s))
		default:
			return "", m.fail(api.ErrJson, m.at)
		}
	}
	m.at++
	return string(out), true
}

func escapeModel(x string) string {
	unit := func(s string) rune {
		n, _ := strconv.ParseUint(s, 16, 32)
		return rune(n)
	}
	switch len(x) {
	case 12:
		return string(utf16.DecodeRune(unit(x[2:6]), unit(x[8:])))
	case 6:
		return string(unit(x[2:]))
	}
	return map[byte]string{'"': `"`, '\\': `\`, '/': "/", 'b': "\b", 'f': "\f", 'n': "\n", 'r': "\r", 't': "\t"}[x[1]]
}

func (m *jsonModel) number() (float64, bool) {
	x := aNumber.FindString(m.s[m.at:])
	behind := m.s[m.at+len(x):]
	goesOn := strings.HasPrefix(behind, ".") && !strings.ContainsAny(x, ".eE") || strings.HasPrefix(strings.ToLower(behind), "e") && !strings.ContainsAny(x, "eE")
	if x == "" || goesOn || len(x) > 64 {
		return 0, m.fail(api.ErrJson, m.at)
	}
	v, _ := strconv.ParseFloat(x, 64)
	if math.IsInf(v, 0) {
		return 0, m.fail(api.ErrLarge, m.at)
	}
	m.at += len(x)
	return v, true
}

// put lays down a value in the innermost one that is open.
func (m *jsonModel) put(j api.Json) *api.Json {
	if len(m.stack) == 0 {
		m.root = j
		return &m.root
	}
	up := m.stack[len(m.stack)-1]
	up.List = append(up.List, j)
	return &up.List[len(up.List)-1]
}

// scalar reads a value that holds none.
func (m *jsonModel) scalar() bool {
	for word, j := range map[string]api.Json{"null": {}, "true": {Kind: api.JBool, Bool: true}, "false": {Kind: api.JBool}} {
		if m.sign() != word[:1] {
			continue
		}
		for i := range word {
			if m.sign() != word[i:i+1] {
				return m.fail(api.ErrJson, m.at)
			}
			m.at++
		}
		m.put(j)
		return true
	}
	switch c := m.sign(); {
	case c == `"`:
		s, ok := m.text()
		m.put(api.Json{Kind: api.JText, Text: s})
		return ok
	case c != "" && strings.Contains("-0123456789", c):
		v, ok := m.number()
		m.put(api.Json{Kind: api.JNumber, Num: v})
		return ok
	}
	return m.fail(api.ErrJson, m.at)
}

// name reads a member's name, and what stands behind it.
func (m *jsonModel) name(up *api.Json) bool {
	begin := m.at
	s, ok := m.text()
	if !ok {
		return false
	}
	if slices.Contains(up.Names, s) {
		return m.fail(api.ErrTwice, begin)
	}
	up.Names = append(up.Names, s)
	m.blanks()
	if m.sign() != ":" {
		return m.fail(api.ErrJson, m.at)
	}
	m.at++
	return true
}

func (m *jsonModel) read() bool {
	fresh := false // a bracket was opened right ahead
	for {
		m.blanks()
		if len(m.stack) > 0 {
			up := m.stack[len(m.stack)-1]
			end := map[int]string{api.JList: "]", api.JObject: "}"}[up.Kind]
			if m.sign() == end {
				m.at++
				m.stack = m.stack[:len(m.stack)-1]
				fresh = false
				if len(m.stack) == 0 {
					break
				}
				continue
			}
			if !fresh {
				if m.sign() != "," {
					return m.fail(api.ErrJson, m.at)
				}
				m.at++
				m.blanks()
			}
			if up.Kind == api.JObject && !m.name(up) {
				return false
			}
			m.blanks()
		}
		if c := m.sign(); c == "[" || c == "{" {
			if len(m.stack) == 50 {
				return m.fail(api.ErrDeep, m.at)
			}
			m.at++
			m.stack = append(m.stack, m.put(api.Json{Kind: map[string]int{"[": api.JList, "{": api.JObject}[c]}))
			fresh = true
			continue
		}
		if !m.scalar() {
			return false
		}
		fresh = false
		if len(m.stack) == 0 {
			break
		}
	}
	m.blanks()
	if m.at < len(m.s) {
		return m.fail(api.ErrJson, m.at)
	}
	return true
}

func readModel(s string) (api.Json, api.Errno, int) {
	if len(s) > 65536 {
		return api.Json{}, api.ErrSize, 0
	}
	m := &jsonModel{s: s}
	if !m.read() {
		return api.Json{}, m.e, m.place
	}
	return m.root, api.OK, 0
}

// sameJson: the same, field by field, floats by their bits?
func sameJson(a, b api.Json) bool {
	return a.Kind == b.Kind && a.Bool == b.Bool && math.Float64bits(a.Num) == math.Float64bits(b.Num) && a.Text == b.Text && slices.Equal(a.Names, b.Names) && slices.EqualFunc(a.List, b.List, sameJson)
}

func isNoJson(j api.Json) bool {
	return j.Kind == 0 && !j.Bool && math.Float64bits(j.Num) == 0 && j.Text == "" && j.Names == nil && j.List == nil
}

// checkRead holds ReadJson against its model.
func checkRead(t *testing.T, s string) (api.Json, bool) {
	t.Helper()
	j, e, at := ReadJson(s)
	want, wantE, wantAt := readModel(s)
	if e != wantE || at != wantAt || !sameJson(j, want) || e != api.OK && !isNoJson(j) {
		t.Errorf("ReadJson(%.300q): %.300v, %d, %d; want %.300v, %d, %d", s, j, e, at, want, wantE, wantAt)
	}
	return j, e == api.OK
}

func quoteModel(s string) string {
	out := []byte{'"'}
	for _, r := range s {
		switch {
		case r == '"':
			out = append(out, `\"`...)
		case r == '\\':
			out = append(out, `\\`...)
		case r == 10:
			out = append(out, `\n`...)
		case r == 13:
			out = append(out, `\r`...)
		case r == 9:
			out = append(out, `\t`...)
		case r < 32:
			out = fmt.Appendf(out, `\u%04x`, r)
		default:
			out = utf8.AppendRune(out, r)
		}
	}
	return string(append(out, '"'))
}

func numberModel(v float64) string {
	s := strconv.FormatFloat(v, 'e', -1, 64)
	_, exponent, _ := strings.Cut(s, "e")
	if n, _ := strconv.Atoi(exponent); n >= -6 && n <= 20 {
		return strconv.FormatFloat(v, 'f', -1, 64)
	}
	return s
}

// ofKind: is it one of the kinds, what it holds aside?
func ofKind(j api.Json) bool {
	only := api.Json{Kind: j.Kind, Names: j.Names, List: j.List}
	switch j.Kind {
	case api.JNull:
	case api.JBool:
		only.Bool = j.Bool
	case api.JNumber:
		only.Num = j.Num
	case api.JText:
		only.Text = j.Text
	case api.JList, api.JObject:
	default:
		return false
	}
	if only.Bool != j.Bool || math.Float64bits(only.Num) != math.Float64bits(j.Num) || only.Text != j.Text {
		return false
	}
	if j.Kind != api.JObject && len(j.Names) > 0 || j.Kind < api.JList && len(j.List) > 0 || j.Kind == api.JObject && len(j.Names) != len(j.List) {
		return false
	}
	seen := map[string]bool{}
	for _, s := range append([]string{}, j.Names...) {
		if seen[s] || !utf8.ValidString(s) {
			return false
		}
		seen[s] = true
	}
	return utf8.ValidString(j.Text) && !math.IsNaN(j.Num) && !math.IsInf(j.Num, 0)
}

// writeModel writes a value behind a text.
func writeModel(out *strings.Builder, j api.Json, within int) api.Errno {
	if out.Len() > 1<<20 {
		return api.ErrSize
	}
	if !ofKind(j) {
		return api.ErrJson
	}
	switch j.Kind {
	case api.JNull:
		out.WriteString("null")
	case api.JBool:
		fmt.Fprint(out, j.Bool)
	case api.JNumber:
		out.WriteString(numberModel(j.Num))
	case api.JText:
		out.WriteString(quoteModel(j.Text))
	default:
		if within == 50 {
			return api.ErrDeep
		}
		signs := map[int]string{api.JList: "[]", api.JObject: "{}"}[j.Kind]
		out.WriteString(signs[:1])
		for i := range j.List {
			if i > 0 {
				out.WriteString(",")
			}
			if j.Kind == api.JObject {
				out.WriteString(quoteModel(j.Names[i]) + ":")
			}
			if e := writeModel(out, j.List[i], within+1); e != api.OK {
				return e
			}
		}
		out.WriteString(signs[1:])
	}
	return api.OK
}

// checkWrite holds WriteJson against its model.
func checkWrite(t *testing.T, j api.Json) (string, api.Errno) {
	t.Helper()
	var b strings.Builder
	wantE := writeModel(&b, j, 0)
	want := b.String()
	if wantE == api.OK && len(want) > 1<<20 {
		wantE = api.ErrSize
	}
	if wantE != api.OK {
		want = ""
	}
	s, e := WriteJson(j)
	if s != want || e != wantE {
		t.Errorf("WriteJson: %.300q, %d; want %.300q, %d", s, e, want, wantE)
	}
	return s, e
}

func null() api.Json              { return api.Json{} }
func yes(b bool) api.Json         { return api.Json{Kind: api.JBool, Bool: b} }
func number(v float64) api.Json   { return api.Json{Kind: api.JNumber, Num: v} }
func text(s string) api.Json      { return api.Json{Kind: api.JText, Text: s} }
func list(l ...api.Json) api.Json { return api.Json{Kind: api.JList, List: l} }
func object(n []string, l ...api.Json) api.Json {
	return api.Json{Kind: api.JObject, Names: n, List: l}
}

// source makes things up.
type source struct{ *rand.Rand }

func newSource(seed int64) source { return source{rand.New(rand.NewSource(seed))} }

// pick answers one of these.
func (r source) pick(l ...string) string { return l[r.Intn(len(l))] }

func (r source) text() string {
	s := ""
	for range r.Intn(5) {
		s += r.pick("a", "Z", "0", " ", "\"", "\\", "\n", "\t", "\r", "\x00", "\x1f", "\x7f", "é", "€", "😀", "\ufffd", "/", "+", "%", "&", "=", "~", ".")
	}
	return s
}

func (r source) number() float64 {
	switch r.Intn(4) {
	case 0:
		return float64(r.Intn(100) - 50)
	case 1:
		return math.Copysign(0, float64(r.Intn(2)*2-1))
	case 2:
		return r.NormFloat64() * math.Pow(10, float64(r.Intn(40)-20))
	}
	if v := math.Float64frombits(r.Uint64()); !math.IsNaN(v) && !math.IsInf(v, 0) {
		return v
	}
	return math.MaxFloat64
}

// json answers a value that can be written.
func (r source) json(deep int) api.Json {
	kind := r.Intn(6)
	if deep <= 0 {
		kind = r.Intn(4)
	}
	switch kind {
	case api.JBool:
		return yes(r.Intn(2) == 0)
	case api.JNumber:
		return number(r.number())
	case api.JText:
		return text(r.text())
	case api.JList:
		j := list()
		for range r.Intn(4) {
			j.List = append(j.List, r.json(deep-1))
		}
		return j
	case api.JObject:
		j := object(nil)
		for range r.Intn(4) {
			if name := r.text(); !slices.Contains(j.Names, name) {
				j.Names = append(j.Names, name)
				j.List = append(j.List, r.json(deep-1))
			}
		}
		return j
	}
	return null()
}

// spoilt answers s with some bytes changed, taken away, or put in.
func (r source) spoilt(s string, signs string) string {
	b := []byte(s)
	for range 1 + r.Intn(2) {
		at := r.Intn(len(b) + 1)
		c := signs[r.Intn(len(signs))]
		switch r.Intn(3) {
		case 0:
			b = slices.Insert(b, at, c)
		case 1:
			if at < len(b) {
				b = slices.Delete(b, at, at+1)
			}
		default:
			if at < len(b) {
				b[at] = c
			}
		}
	}
	return string(b)
}

// request answers a request that can be.
func (r source) request() Request {
	q := Request{Method: r.pick("GET", "POST", "PUT", "DELETE"), Path: "/" + r.pick("", "a", "api/query", "-._~/", "0/Z")}
	for range r.Intn(4) {
		q.Query = append(q.Query, Pair{r.text(), r.text()})
	}
	for i := range r.Intn(4) {
		q.Headers = append(q.Headers, Pair{r.pick("A", "x-", "Host", "-") + strconv.Itoa(i), r.pick("", "a", "a b", "a\tb: c", "~!")})
	}
	if r.Intn(2) == 0 {
		q.Body = r.text()
		name := r.pick("Content-Length", "content-length", "CONTENT-LENGTH")
		q.Headers = append(q.Headers, Pair{name, r.pick("", "0", "000") + strconv.Itoa(len(q.Body))})
	}
	return q
}
