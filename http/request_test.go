package http

import (
	"fmt"
	"slices"
	"strings"
	"testing"

	"tocsin/api"
)

// end ends the line of a request, and the request.
const end = " HTTP/1.1\r\n\r\n"

// refused asks for ErrRequest at a place.
func refused(t *testing.T, s string, want int) {
	t.Helper()
	if r, e, at := Parse([]byte(s)); e != api.ErrRequest || at != want || !isNoRequest(r) {
		t.Errorf("Parse(%.200q): %v, %d, %d; want %d", s, r, e, at, want)
	}
	checkParse(t, s)
}

// accepted asks for a request, which Print writes so that it is read again.
func accepted(t *testing.T, s string, want Request) {
	t.Helper()
	r, e, at := Parse([]byte(s))
	if e != api.OK || at != 0 || !same(r, want) {
		t.Errorf("Parse(%.200q): %v, %d, %d; want %v", s, r, e, at, want)
	}
	checkParse(t, s)
	checkPrint(t, r)
}

// checkPrint: what is printed of a request that can be is read as it.
func checkPrint(t *testing.T, r Request) string {
	t.Helper()
	b, e := Print(r)
	again, f, at := Parse(b)
	if e != api.OK || f != api.OK || at != 0 || !same(again, r) {
		t.Errorf("Print(%.300q): %.300q, %d; %d, %d", fmt.Sprint(r), b, e, f, at)
	}
	return string(b)
}

func TestExamples_Request(t *testing.T) {
	accepted(t, "GET /api?q=a%2Bb HTTP/1.1\r\n\r\n", Request{Method: "GET", Path: "/api", Query: []Pair{{"q", "a+b"}}})
	refused(t, "GET /api?q=a%2Bb HTTP/1.1\n\n", 25)
	short := "POST / HTTP/1.1\r\nContent-Length: 5\r\n\r\nabcd"
	refused(t, short, len(short))
}

func TestP28_1_Method(t *testing.T) {
	for _, s := range []string{"GET", "POST", "PUT", "DELETE"} {
		accepted(t, s+" /"+end, Request{Method: s, Path: "/"})
	}
	for _, s := range []string{"", "get", "Get", "HEAD", "PATCH", "GETX", "GE", "POST\t", "DELETE\x00", "\xff", " GET", "\rGET", "\nGET", "OPTIONS"} {
		refused(t, s+" /"+end, 0)
	}
	refused(t, "", 0)
	refused(t, "GE", 0)
	refused(t, "GET", 3)
	refused(t, "GET\r\n", 3)
	refused(t, "GET\n", 3)
	refused(t, "GET ", 4)
	refused(t, "GET  /"+end, 4)
}

func TestP28_1_Path(t *testing.T) {
	long := "/" + strings.Repeat("a", 255)
	for _, s := range []string{"/", "//", "/a", "/api/v1.0/a_b-c~d", "/..", long} {
		accepted(t, "GET "+s+end, Request{Method: "GET", Path: s})
	}
	for _, s := range []string{"", "a", "api/", "*", "?", "?a=1", "http://a/", "~/", long + "a", strings.Repeat("/", 257), long + "a?q=1", strings.Repeat("a", 5000)} {
		refused(t, "GET "+s+end, 4)
	}
	refused(t, "GET /", 5)
	refused(t, "GET /\r\n\r\n", 5)
	refused(t, "GET /\n", 5)
	refused(t, "GET / ", 6)
	for c := range 256 {
		s := "GET /" + string([]byte{byte(c)}) + end
		switch {
		case c == ' ':
			refused(t, s, 6) // the version is empty
		case c == '\r', c == '\n':
			refused(t, s, 5)
		case c == '?':
			accepted(t, s, Request{Method: "GET", Path: "/"})
		case c < 128 && strings.ContainsRune("ABCDEFGHIJKLMNOPQRSTUVWXYZabcdefghijklmnopqrstuvwxyz0123456789/._-~", rune(c)):
			accepted(t, s, Request{Method: "GET", Path: "/" + string(rune(c))})
		default:
			refused(t, s, 4)
		}
	}
}

func TestP28_1_Query(t *testing.T) {
	for _, c := range []struct {
		s string
		l []Pair
	}{
		{"", nil},
		{"a=1", []Pair{{"a", "1"}}},
		{"=", []Pair{{"", ""}}},
		{"a=", []Pair{{"a", ""}}},
		{"=1", []Pair{{"", "1"}}},
		{"=&=", []Pair{{"", ""}, {"", ""}}},
		{"a=1&a=2&b=3", []Pair{{"a", "1"}, {"a", "2"}, {"b", "3"}}},
		{"a+b=+&+=c++", []Pair{{"a b", " "}, {" ", "c  "}}},
		{"%41=%2B%26%3d%25%00%0d%0A", []Pair{{"A", "+&=%\x00\r\n"}}},
		{"q=%C3%a9%F0%9f%98%80", []Pair{{"q", "é😀"}}},
		{".-_~=~_-.", []Pair{{".-_~", "~_-."}}},
	} {
		accepted(t, "GET /a?"+c.s+end, Request{Method: "GET", Path: "/a", Query: c.l})
	}
	for _, s := range []string{"a", "&", "a=1&", "&a=1", "a=1&&b=2", "a=1&b", "a=b=c", "a==", "a=?", "a=/", "a=%", "a=%4", "a=%4&b=1", "%=1", "a=%4g", "a=%g4", "a=%+1", "a=%-1", "a=%0x", "a=#", "a=\"", "a=é", "a=\xff", "a=\x00", "a=%ff", "%ff=a", "a=%c3", "%c3=%a9", "a=%c3&b=%a9", "a=%ed%a0%80", "a=%c0%80", "a=1;b=2", "a=\t"} {
		refused(t, "GET /a?"+s+end, 4)
	}
	many := strings.Repeat("a=1&", 63) + "a=1"
	accepted(t, "GET /?"+many+end, Request{Method: "GET", Path: "/", Query: slices.Repeat([]Pair{{"a", "1"}}, 64)})
	refused(t, "GET /?"+many+"&a=1"+end, 4)
	refused(t, "GET /?"+strings.Repeat("=&", 64)+"="+end, 4)
	refused(t, "GET /?"+strings.Repeat("&", 90000)+end, 4)
	for c := range 256 {
		s := "GET /?q=" + string([]byte{byte(c)}) + end
		switch {
		case c == ' ':
			refused(t, s, 9)
		case c == '\r', c == '\n':
			refused(t, s, 8)
		case c == '+':
			accepted(t, s, Request{Method: "GET", Path: "/", Query: []Pair{{"q", " "}}})
		case c == '&':
			refused(t, s, 4)
		case c < 128 && strings.ContainsRune("ABCDEFGHIJKLMNOPQRSTUVWXYZabcdefghijklmnopqrstuvwxyz0123456789._-~", rune(c)):
			accepted(t, s, Request{Method: "GET", Path: "/", Query: []Pair{{"q", string(rune(c))}}})
		default:
			refused(t, s, 4)
		}
	}
	// So long a value is one.
	long := strings.Repeat("v", 90000)
	accepted(t, "GET /?q="+long+end, Request{Method: "GET", Path: "/", Query: []Pair{{"q", long}}})
}

func TestP28_1_Version(t *testing.T) {
	for _, s := range []string{"", "HTTP/1.0", "HTTP/1.", "HTTP/1.11", "http/1.1", "HTTP/2", "HTTP/1.1\t", "HTTP/1.1\x00", "HTTP"} {
		refused(t, "GET / "+s+"\r\n\r\n", 6)
		refused(t, "GET / "+s, 6)
	}
	refused(t, "GET / HTTP/1.1", 14)
	refused(t, "GET / HTTP/1.1 \r\n\r\n", 14)
	refused(t, "GET / HTTP/1.1\n\n", 14)
	refused(t, "GET / HTTP/1.1\r", 15)
	refused(t, "GET / HTTP/1.1\r\r\n", 15)
	refused(t, "GET / HTTP/1.1\rA: 1\r\n\r\n", 15)
	refused(t, "GET / HTTP/1.1\r\n", 16)
	refused(t, "GET / HTTP/1.1\r\n\r", 17)
	refused(t, "GET / HTTP/1.1\r\n\rx", 17)
	refused(t, "GET / HTTP/1.1\r\n\n", 16)
}

// begin is a line of 16 bytes.
const begin = "GET / HTTP/1.1\r\n"

func TestP28_1_Headers(t *testing.T) {
	get := func(l ...Pair) Request { return Request{Method: "GET", Path: "/", Headers: l} }
	for _, n := range []int{1, 2, 63, 64} {
		name := strings.Repeat("n", n)
		accepted(t, begin+name+": v\r\n\r\n", get(Pair{name, "v"}))
	}
	for _, n := range []int{65, 66, 5000} {
		refused(t, begin+strings.Repeat("n", n)+": v\r\n\r\n", 16)
		refused(t, begin+strings.Repeat("n", n), 16)
	}
	refused(t, begin+": v\r\n\r\n", 16)
	refused(t, begin+" A: v\r\n\r\n", 16)
	refused(t, begin+"A", 17)
	refused(t, begin+"A\r\n\r\n", 17)
	refused(t, begin+"A : v\r\n\r\n", 17)
	refused(t, begin+"A_B: v\r\n\r\n", 17)
	refused(t, begin+"A:", 18)
	refused(t, begin+"A: ", 19)
	refused(t, begin+"A: v", 20)
	refused(t, begin+"A: v\n\r\n", 20)
	refused(t, begin+"A: v\r", 21)
	refused(t, begin+"A: v\rB: w\r\n\r\n", 21)
	refused(t, begin+"A: v\r\n", 22)
	refused(t, begin+"A: v\r\nB", 23)
	refused(t, begin+"A: v\r\n folded\r\n\r\n", 22)
	accepted(t, begin+"-: v\r\n0Az-9:w\r\n\r\n", get(Pair{"-", "v"}, Pair{"0Az-9", "w"}))
	for c := range 256 {
		sign := string([]byte{byte(c)})
		s := begin + "A" + sign + ": v\r\n\r\n"
		switch {
		case c == '-' || c >= '0' && c <= '9' || c >= 'A' && c <= 'Z' || c >= 'a' && c <= 'z':
			accepted(t, s, get(Pair{"A" + sign, "v"}))
		case c == ':':
			accepted(t, s, get(Pair{"A", ": v"}))
		default:
			refused(t, s, 17)
		}
		s = begin + "A: v" + sign + "v\r\n\r\n"
		if c >= 32 && c <= 126 || c == 9 {
			accepted(t, s, get(Pair{"A", "v" + sign + "v"}))
		} else if c == '\r' {
			refused(t, s, 21)
		} else {
			refused(t, s, 20)
		}
	}
}

func TestP28_1_HeaderValues(t *testing.T) {
	get := func(l ...Pair) Request { return Request{Method: "GET", Path: "/", Headers: l} }
	for _, c := range []struct{ s, value string }{
		{"", ""}, {" ", ""}, {" \t \t", ""}, {"v", "v"}, {" v", "v"}, {"v ", "v"}, {"\t v \t ", "v"}, {" v w\tx ", "v w\tx"}, {" : ", ":"},
	} {
		accepted(t, begin+"A:"+c.s+"\r\n\r\n", get(Pair{"A", c.value}))
	}
	long := strings.Repeat("v", 1024)
	wide := "v" + strings.Repeat(" ", 1022) + "v"
	for _, v := range []string{long, wide} {
		for _, blanks := range []string{"", " ", strings.Repeat(" \t", 2000)} {
			accepted(t, begin+"A:"+blanks+v+blanks+"\r\n\r\n", get(Pair{"A", v}))
			refused(t, begin+"A:"+blanks+v+"v"+blanks+"\r\n\r\n", 18+len(blanks))
			refused(t, begin+"A:"+blanks+v+"v", 18+len(blanks))
			refused(t, begin+"A:"+blanks+v+"v\n", 18+len(blanks))
		}
	}
}

func TestP28_1_ManyHeaders(t *testing.T) {
	s, l := begin, []Pair(nil)
	for i := range 32 {
		l = append(l, Pair{fmt.Sprint("H", i), "v"})
		s += fmt.Sprint("H", i, ": v\r\n")
	}
	accepted(t, s+"\r\n", Request{Method: "GET", Path: "/", Headers: l})
	refused(t, s+"More: v\r\n\r\n", len(s))
	refused(t, s+"More", len(s))
	refused(t, s+"H0: v\r\n\r\n", len(s))
	refused(t, s, len(s))
	for _, name := range []string{"Ab-c", "ab-c", "AB-C", "aB-C"} {
		twice := begin + "Ab-c: 1\r\nX: 2\r\n"
		refused(t, twice+name+": 3\r\n\r\n", len(twice))
		refused(t, twice+name+"\n", len(twice))
		refused(t, twice+name, len(twice))
	}
	// Names that differ by more than the case of letters are two.
	accepted(t, begin+"A: 1\r\nAB: 2\r\nA-: 3\r\n-: 4\r\n\r\n", Request{Method: "GET", Path: "/", Headers: []Pair{{"A", "1"}, {"AB", "2"}, {"A-", "3"}, {"-", "4"}}})
}

func TestP28_1_Body(t *testing.T) {
	post := func(value, body string) (string, Request) {
		return "POST / HTTP/1.1\r\nContent-Length: " + value + "\r\n\r\n" + body, Request{Method: "POST", Path: "/", Headers: []Pair{{"Content-Length", value}}, Body: body}
	}
	full := strings.Repeat("b", 65536)
	for _, c := range []struct{ value, body string }{
		{"0", ""}, {"1", "a"}, {"3", "a\r\n"}, {"5", "\x00\xff\x80\n\r"}, {"007", "1234567"}, {"00", ""}, {strings.Repeat("0", 1020) + "2", "ab"}, {"65536", full}, {"0065536", full},
	} {
		s, r := post(c.value, c.body)
		accepted(t, s, r)
		refused(t, s+"x", len(s))
		refused(t, s+"\r\n", len(s))
		if c.body != "" {
			refused(t, s[:len(s)-1], len(s)-1)
		}
	}
	for _, value := range []string{"", "-0", "-1", "+1", "1.0", "1e1", "0x1", "1 2", "a", "1a", "a1", "65537", "70000", "99999999999999999999999999", strings.Repeat("9", 1024), "1,1", "1_0"} {
		s, _ := post(value, "abc")
		refused(t, s, 33)
		refused(t, "POST / HTTP/1.1\r\nContent-Length: "+value+"\n", 33)
	}
	// Without the header there is no body.
	refused(t, begin+"\r\nx", 18)
	refused(t, begin+"Content-Lengt: 1\r\n\r\nx", 36)
	for _, name := range []string{"content-length", "CONTENT-LENGTH", "cOnTeNt-LeNgTh"} {
		accepted(t, begin+name+":2\r\n\r\nab", Request{Method: "GET", Path: "/", Headers: []Pair{{name, "2"}}, Body: "ab"})
		refused(t, begin+name+": x\r\n\r\nab", 32)
	}
}

func TestP28_1_Size(t *testing.T) {
	const most = 65536 + 32768
	fit := func(n int) string { return "GET /?q=" + strings.Repeat("v", n-len("GET /?q=")-len(end)) + end }
	for _, n := range []int{most - 1, most} {
		if _, e, at := Parse([]byte(fit(n))); e != api.OK || at != 0 {
			t.Error(n, e, at)
		}
		refused(t, strings.Repeat("x", n), 0)
	}
	for _, s := range []string{fit(most + 1), strings.Repeat("x", most+1), strings.Repeat("\x00", 1<<20)} {
		if r, e, at := Parse([]byte(s)); e != api.ErrSize || at != 0 || !isNoRequest(r) {
			t.Error(len(s), e, at)
		}
	}
	if _, e, at := Parse(nil); e != api.ErrRequest || at != 0 {
		t.Error(e, at)
	}
}

// Two faults at once: the one that stands first.
func TestP28_1_First(t *testing.T) {
	refused(t, "GETX foo HTTP/9\n", 0)
	refused(t, "GET foo HTTP/9\n", 4)
	refused(t, "GET / HTTP/9\n", 6)
	refused(t, begin+"A_: \x00\r\nContent-Length: x", 17)
	refused(t, begin+"Content-Length: x\n\nx", 32)
	refused(t, begin+"Content-Length: 1\r\ncontent-length: x\r\n\r\n", 35)
}

func TestP28_1_Model(t *testing.T) {
	r := newSource(281)
	good := 0
	for range 20000 {
		s := checkPrint(t, r.request())
		checkParse(t, s)
		if _, ok := checkParse(t, r.spoilt(s, "GET /?&=%+: \t\r\nAa09-\x00\xff~")); ok {
			good++
		}
		if t.Failed() {
			return
		}
	}
	if good < 1000 {
		t.Error("too few that can be read:", good)
	}
}

func TestP28_2_Print(t *testing.T) {
	for _, c := range []struct {
		r    Request
		want string
	}{
		{Request{Method: "GET", Path: "/"}, "GET / HTTP/1.1\r\n\r\n"},
		{Request{Method: "GET", Path: "/", Query: []Pair{}, Headers: []Pair{}}, "GET / HTTP/1.1\r\n\r\n"},
		{Request{Method: "GET", Path: "/api", Query: []Pair{{"q", "a+b"}}}, "GET /api?q=a%2Bb HTTP/1.1\r\n\r\n"},
		{Request{Method: "PUT", Path: "/a/b", Query: []Pair{{"", ""}, {"a b", "é"}, {"a b", "~/"}}}, "PUT /a/b?=&a%20b=%C3%A9&a%20b=~%2F HTTP/1.1\r\n\r\n"},
		{Request{Method: "DELETE", Path: "/", Headers: []Pair{{"A", ""}, {"b-1", "x  y"}}}, "DELETE / HTTP/1.1\r\nA: \r\nb-1: x  y\r\n\r\n"},
		{Request{Method: "POST", Path: "/", Headers: []Pair{{"content-length", "03"}}, Body: "a\r\n"}, "POST / HTTP/1.1\r\ncontent-length: 03\r\n\r\na\r\n"},
	} {
		if s := checkPrint(t, c.r); s != c.want {
			t.Errorf("%q; want %q", s, c.want)
		}
	}
}

// requestsThatCanNot are requests that Parse reads of no bytes.
func requestsThatCanNot() []Request {
	get := Request{Method: "GET", Path: "/"}
	with := func(do func(r *Request)) Request {
		r := get
		do(&r)
		return r
	}
	l := []Request{{}, {Method: "GET"}, {Path: "/"}}
	for _, s := range []string{"", "get", "HEAD", "GET ", " GET", "GET / HTTP/1.1\r\nA: 1\r\n\r\n", "GET /a"} {
		l = append(l, with(func(r *Request) { r.Method = s }))
	}
	for _, s := range []string{"", "a", "/a b", "/?", "/?a=1", "/%41", "/é", "/\r\n", "/ HTTP/1.1\r\nA: 1", "/" + strings.Repeat("a", 256)} {
		l = append(l, with(func(r *Request) { r.Path = s }))
	}
	l = append(l, with(func(r *Request) { r.Query = make([]Pair, 65) }))
	for _, s := range []string{"\xff", "é\x80", "\xed\xa0\x80"} {
		l = append(l, with(func(r *Request) { r.Query = []Pair{{s, ""}} }), with(func(r *Request) { r.Query = []Pair{{"", s}} }))
	}
	for _, s := range []string{"", "a b", "a:", "é", "a\r\nb", strings.Repeat("n", 65), "A "} {
		l = append(l, with(func(r *Request) { r.Headers = []Pair{{s, "v"}} }))
	}
	for _, s := range []string{" v", "v ", "\t", " ", "v\r\nB: w", "v\n", "é", "\x00", "\x7f", strings.Repeat("v", 1025)} {
		l = append(l, with(func(r *Request) { r.Headers = []Pair{{"A", s}} }))
	}
	l = append(l, with(func(r *Request) { r.Headers = []Pair{{"A", "1"}, {"a", "1"}} }))
	l = append(l, with(func(r *Request) {
		for i := range 33 {
			r.Headers = append(r.Headers, Pair{fmt.Sprint("H", i), ""})
		}
	}))
	l = append(l, with(func(r *Request) { r.Body = "x" }))
	for _, s := range []string{"", "0", "1", "3", "x", "+2", "-1", "65537", "2 "} {
		l = append(l, with(func(r *Request) { r.Headers, r.Body = []Pair{{"Content-Length", s}}, "ab" }))
	}
	l = append(l, with(func(r *Request) { r.Headers, r.Body = []Pair{{"Content-Length", "65537"}}, strings.Repeat("b", 65537) }))
	// No bytes that Parse takes have room for it.
	l = append(l, with(func(r *Request) { r.Query = []Pair{{"q", strings.Repeat("v", 65536+32768)}} }))
	return l
}

func TestP28_2_PrintRefused(t *testing.T) {
	for _, r := range requestsThatCanNot() {
		if b, e := Print(r); b != nil || e != api.ErrRequest {
			t.Errorf("Print(%.200q): %.200q, %d", fmt.Sprint(r), b, e)
		}
	}
}

// Print answers no bytes that Parse can not read.
func TestP28_2_PrintSize(t *testing.T) {
	const most = 65536 + 32768
	room := most - len("GET /?q="+end)
	for n, want := range map[int]api.Errno{room: api.OK, room + 1: api.ErrRequest} {
		r := Request{Method: "GET", Path: "/", Query: []Pair{{"q", strings.Repeat("v", n)}}}
		if b, e := Print(r); e != want || (b != nil) != (e == api.OK) {
			t.Error(n, len(b), e)
		}
	}
}

func TestP28_2_Get(t *testing.T) {
	r := Request{Query: []Pair{{"a", "1"}, {"", "2"}, {"a", "3"}, {"b", ""}}, Headers: []Pair{{"Host", "h"}, {"X-Y", ""}, {"host", "i"}, {"É", "e"}, {"Z[", "1"}}}
	for _, c := range []struct {
		name, value string
		is          bool
	}{{"a", "1", true}, {"", "2", true}, {"b", "", true}, {"A", "", false}, {"c", "", false}, {"Host", "", false}} {
		if v, is := r.Get(c.name); v != c.value || is != c.is {
			t.Error("Get", c.name, v, is)
		}
	}
	for _, c := range []struct {
		name, value string
		is          bool
	}{{"Host", "h", true}, {"host", "h", true}, {"HOST", "h", true}, {"hOsT", "h", true}, {"x-y", "", true}, {"X-Y", "", true}, {"", "", false}, {"hos", "", false}, {"hosts", "", false}, {"a", "", false},
		{"É", "e", true}, {"é", "", false}, {"z[", "1", true}, {"Z{", "", false}, {"X\x0dY", "", false}} {
		if v, is := r.Header(c.name); v != c.value || is != c.is {
			t.Error("Header", c.name, v, is)
		}
	}
	var none Request
	if v, is := none.Get(""); v != "" || is {
		t.Error(v, is)
	}
	if v, is := none.Header(""); v != "" || is {
		t.Error(v, is)
	}
}

// TestP28_7_Print: Parse(Print(r)) is r.
func TestP28_7_Print(t *testing.T) {
	r := newSource(287)
	for range 20000 {
		checkPrint(t, r.request())
	}
}

// TestP28_9_Cut: a request cut anywhere, or with a byte behind it, is none.
func TestP28_9_Cut(t *testing.T) {
	r := newSource(289)
	requests := []string{"GET / HTTP/1.1\r\n\r\n", "POST /api?q=a%2Bb&=&c=%C3%A9 HTTP/1.1\r\nHost: x y\r\nContent-Length:  11 \r\nB:\r\n\r\nGET / HTTP/"}
	for range 200 {
		requests = append(requests, checkPrint(t, r.request()))
	}
	for _, s := range requests {
		if _, ok := checkParse(t, s); !ok {
			t.Errorf("%q", s)
		}
		for n := range len(s) {
			if _, ok := checkParse(t, s[:n]); ok {
				t.Errorf("%q cut at %d", s, n)
			}
		}
		for _, c := range []string{"x", " ", "\r", "\n", "\x00", "\r\n\r\n", s} {
			refused(t, s+c, len(s))
		}
	}
}

// TestRules_Request: no list is kept or changed, and what is answered is new memory.
func TestRules_Request(t *testing.T) {
	b := []byte("POST /a?x=1&y=2 HTTP/1.1\r\nA: 1\r\nContent-Length: 2\r\n\r\nhi")
	was := string(b)
	r, _, _ := Parse(b)
	for i := range b {
		b[i] = 'z'
	}
	want, _, _ := Parse([]byte(was))
	if !same(r, want) {
		t.Error("kept", r)
	}
	_ = append(r.Query, Pair{"more", ""})
	_ = append(r.Headers, Pair{"more", ""})
	if !same(r, want) {
		t.Error("shared", r)
	}
	out, _ := Print(r)
	again, _ := Print(r)
	for i := range out {
		out[i] = 'z'
	}
	if string(again) == string(out) || !same(r, want) {
		t.Error("shared", string(again))
	}
}

// FuzzParse holds Parse against its model, and Print against Parse.
func FuzzParse(f *testing.F) {
	f.Add([]byte("GET /api?q=a%2Bb HTTP/1.1\r\n\r\n"))
	f.Add([]byte("POST / HTTP/1.1\r\nContent-Length: 3\r\nA: b\r\n\r\nabc"))
	f.Fuzz(func(t *testing.T, b []byte) {
		if r, ok := checkParse(t, string(b)); ok {
			if _, e := Print(r); e == api.OK || len(b) < 20000 {
				checkPrint(t, r)
			}
		}
		code, kind, body, e := Read(b)
		if e != api.OK {
			return
		}
		if again, e := Answer(code, kind, body); e != api.OK || string(again) != string(b) {
			t.Errorf("%q, %d", again, e)
		}
	})
}
