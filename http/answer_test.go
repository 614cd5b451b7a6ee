package http

import (
	"fmt"
	"math"
	"strings"
	"testing"

	"tocsin/api"
)

// codes are those of the chapter's table.
func codes() map[int]string {
	return map[int]string{200: "OK", 204: "No Content", 400: "Bad Request", 404: "Not Found", 405: "Method Not Allowed", 409: "Conflict", 413: "Content Too Large", 422: "Unprocessable Entity", 500: "Internal Server Error", 503: "Service Unavailable"}
}

// noCodes are numbers that are none of the table's.
func noCodes() []int {
	return []int{0, -1, -200, 1, 100, 199, 201, 202, 203, 205, 301, 401, 403, 406, 408, 410, 412, 414, 421, 423, 499, 501, 502, 504, 2000, math.MaxInt, math.MinInt}
}

func TestExamples_Answer(t *testing.T) {
	if b, e := Answer(204, "text/plain", ""); e != api.OK || string(b) != "HTTP/1.1 204 No Content\r\nContent-Type: text/plain\r\nContent-Length: 0\r\n\r\n" {
		t.Errorf("%q, %d", b, e)
	}
}

func TestP28_3_Words(t *testing.T) {
	for code := -10; code < 1100; code++ {
		want, wantIs := codes()[code]
		if words, is := Words(code); words != want || is != wantIs {
			t.Error(code, words, is)
		}
	}
	for _, code := range noCodes() {
		if words, is := Words(code); words != "" || is {
			t.Error(code, words, is)
		}
	}
}

// checkAnswer: an answer is as the words of the chapter say, and is read again.
func checkAnswer(t *testing.T, code int, kind, body string) []byte {
	t.Helper()
	want := fmt.Sprintf("HTTP/1.1 %03d %s\r\nContent-Type: %s\r\nContent-Length: %d\r\n\r\n%s", code, codes()[code], kind, len(body), body)
	b, e := Answer(code, kind, body)
	if e != api.OK || string(b) != want {
		t.Errorf("Answer(%d, %q, %.100q): %.200q, %d", code, kind, body, b, e)
	}
	if c, k, s, e := Read(b); c != code || k != kind || s != body || e != api.OK {
		t.Errorf("Read(%.200q): %d, %q, %.100q, %d", b, c, k, s, e)
	}
	return b
}

func kinds() []string {
	return []string{"a", "text/plain", "application/json", "a b", "!~", `text/plain; charset="utf-8"`, strings.Repeat("k", 64), "a" + strings.Repeat(" ", 62) + "b", "Content-Length: 3", ":"}
}

// noKinds can be the kinds of no answers.
func noKinds() []string {
	return []string{"", " ", "  ", " a", "a ", "a\t", "\ta", "a\tb", "a\nb", "a\r\nb", "a\x00", "a\x1f", "a\x7f", "é", "\xff", strings.Repeat("k", 65), strings.Repeat("k", 5000), " " + strings.Repeat("k", 63)}
}

func bodies() []string {
	return []string{"", "a", "{}", "\r\n", "\r\n\r\n", "\x00\xff", "HTTP/1.1 200 OK\r\nContent-Type: a\r\nContent-Length: 0\r\n\r\n", strings.Repeat("b", 1000)}
}

func TestP28_3_Answer(t *testing.T) {
	for code := range codes() {
		for _, kind := range kinds() {
			for _, body := range bodies() {
				checkAnswer(t, code, kind, body)
			}
		}
	}
	for c := range 256 {
		kind := "a" + string([]byte{byte(c)}) + "b"
		if c >= 32 && c <= 126 {
			checkAnswer(t, 200, kind, "x")
		} else if b, e := Answer(200, kind, "x"); b != nil || e != api.ErrForm {
			t.Error(c, e)
		}
	}
	full := strings.Repeat("b", 1<<20)
	checkAnswer(t, 200, "a", full)
	checkAnswer(t, 503, strings.Repeat("k", 64), full)
}

func TestP28_3_AnswerRefused(t *testing.T) {
	more := strings.Repeat("b", 1<<20+1)
	for _, body := range []string{"", "x", more} {
		for _, code := range noCodes() {
			// Two faults at once: the one that is named first.
			for _, kind := range append(noKinds(), "a") {
				if b, e := Answer(code, kind, body); b != nil || e != api.ErrArg {
					t.Error(code, kind, len(body), e)
				}
			}
		}
		for _, kind := range noKinds() {
			if b, e := Answer(200, kind, body); b != nil || e != api.ErrForm {
				t.Errorf("%q, %d", kind, e)
			}
		}
	}
	if b, e := Answer(200, "a", more); b != nil || e != api.ErrSize {
		t.Error(len(b), e)
	}
}

func noAnswer(t *testing.T, s string) {
	t.Helper()
	if code, kind, body, e := Read([]byte(s)); code != 0 || kind != "" || body != "" || e != api.ErrRequest {
		t.Errorf("Read(%.200q): %d, %q, %.200q, %d", s, code, kind, body, e)
	}
}

func TestP28_3_Read(t *testing.T) {
	head := "HTTP/1.1 200 OK\r\nContent-Type: a\r\nContent-Length: "
	for _, s := range []string{
		"", "\r\n", "HTTP/1.1", "HTTP/1.1 200 OK\r\n\r\n",
		head + "3\r\n\r\nab", head + "1\r\n\r\nab", head + "02\r\n\r\nab", head + "+2\r\n\r\nab", head + " 2\r\n\r\nab", head + "2 \r\n\r\nab", head + "\r\n\r\n", head + "2\n\nab", head + "2\r\n\nab", head + "2\r\nA: b\r\n\r\nab",
		" " + head + "0\r\n\r\n", "HTTP/1.0 200 OK\r\nContent-Type: a\r\nContent-Length: 0\r\n\r\n",
		"HTTP/1.1 200 ok\r\nContent-Type: a\r\nContent-Length: 0\r\n\r\n", "HTTP/1.1 200 Not Found\r\nContent-Type: a\r\nContent-Length: 0\r\n\r\n",
		"HTTP/1.1 201 Created\r\nContent-Type: a\r\nContent-Length: 0\r\n\r\n", "HTTP/1.1 0200 OK\r\nContent-Type: a\r\nContent-Length: 0\r\n\r\n", "HTTP/1.1 +200 OK\r\nContent-Type: a\r\nContent-Length: 0\r\n\r\n", "HTTP/1.1  200 OK\r\nContent-Type: a\r\nContent-Length: 0\r\n\r\n", "HTTP/1.1 200  OK\r\nContent-Type: a\r\nContent-Length: 0\r\n\r\n",
		"200 OK\r\nContent-Type: a\r\nContent-Length: 0\r\n\r\n",
		"HTTP/1.1 200 OK\r\nContent-Length: 0\r\nContent-Type: a\r\n\r\n", "HTTP/1.1 200 OK\r\ncontent-type: a\r\nContent-Length: 0\r\n\r\n", "HTTP/1.1 200 OK\r\nContent-Type:a\r\nContent-Length: 0\r\n\r\n", "HTTP/1.1 200 OK\r\nContent-Type:  a\r\nContent-Length: 0\r\n\r\n",
		"HTTP/1.1 200 OK\r\nContent-Type: \r\nContent-Length: 0\r\n\r\n", "HTTP/1.1 200 OK\r\nContent-Type: a \r\nContent-Length: 0\r\n\r\n", "HTTP/1.1 200 OK\r\nContent-Type: é\r\nContent-Length: 0\r\n\r\n", "HTTP/1.1 200 OK\r\nContent-Type: " + strings.Repeat("k", 65) + "\r\nContent-Length: 0\r\n\r\n",
		head + "1048577\r\n\r\n" + strings.Repeat("b", 1<<20+1),
	} {
		noAnswer(t, s)
	}
	for _, body := range bodies() {
		s := string(checkAnswer(t, 404, "text/plain", body))
		for n := range len(s) {
			noAnswer(t, s[:n])
		}
		for _, c := range []string{"x", "\r\n", "\x00", s} {
			noAnswer(t, s+c)
		}
	}
}

// TestP28_7_Answer: Read(Answer(..)) is code, kind, body; and what is read is just what Answer writes.
func TestP28_7_Answer(t *testing.T) {
	r := newSource(2873)
	good := 0
	for range 20000 {
		code := []int{200, 204, 400, 404, 405, 409, 413, 422, 500, 503}[r.Intn(10)]
		s := string(checkAnswer(t, code, r.pick(kinds()...), r.text()+r.pick(bodies()...)))
		s = r.spoilt(s, "0123456789 \r\n:CaT/é\x00")
		c, k, body, e := Read([]byte(s))
		if e == api.OK {
			good++
			if again := checkAnswer(t, c, k, body); string(again) != s {
				t.Errorf("Read(%q): %q", s, again)
			}
		}
	}
	if good < 1000 {
		t.Error("too few that can be read:", good)
	}
}

func TestRules_Answer(t *testing.T) {
	b, _ := Answer(200, "a", "body")
	c, _ := Answer(200, "a", "body")
	_, _, body, _ := Read(b)
	for i := range b {
		b[i] = 'z'
	}
	_ = append(b, "more"...)
	if string(c) == string(b) || body != "body" {
		t.Error(string(c), body)
	}
	if _, _, body, _ := Read(c); body != "body" {
		t.Error(body)
	}
}
