package shell

import (
	"fmt"
	"strings"
	"testing"
)

// says holds what a shell tells to a line against what is wanted.
func says(t *testing.T, s *Shell, line, want string) {
	t.Helper()
	if got := s.Line(line); got != want {
		t.Errorf("%.200q: %.1000q; want %.1000q", line, got, want)
	}
}

func TestExamples(t *testing.T) {
	s := New()
	for _, c := range [][2]string{
		{"post /api/write up 1", `200 {"accepted":1,"refused":[]}`},
		{"get /api/query?query=up", `200 {"type":"vector","text":"up 1"}`},
		{"tick 5", "ok"}, {"now", "5"}, {"tick 3", "error 1"}, {"crash", "ok"}, {"series", "up 1"},
		{"expr a+b", "3 a + b"}, {"expr 1 +", "error 140 at 3"}, {"span 1h", "3600000"}, {`labels {a="1"}`, `{a="1"}`},
		{"regex a.* abc", "yes"}, {"float .5", "0.5"}, {"json [1, 2]", "[1,2]"}, {"foo", "error 300"}, {"now 1", "error 301"},
	} {
		says(t, s, c[0], c[1])
	}
}

// Each command with too few words, with as many as it has, and with too many.
func TestWords(t *testing.T) {
	rows := map[string]string{ // as many words as it has, and what it tells of them
		"tick 5": "ok", "get /status": "200", "delete /x": "404", "post /x a": "404", "take a": "ok", "refuse a": "ok", "crash a 1": "ok",
		"now": "5", "counts": "", "files": "", "series": "", "active": "", "alerts": "", "silences": "", "marks": "", "config": "resolve",
		"expr a": "3 a", "labels a": "a", "regex a a": "yes", "float 1": "1", "span 1s": "1000", "json 1": "1",
	}
	rest := map[string]bool{"post": true, "expr": true, "labels": true, "regex": true, "json": true}
	for _, blank := range []string{" ", "\t", " \t  \t"} {
		s := New()
		says(t, s, "tick 5", "ok")
		for line, want := range rows {
			words := strings.Fields(line)
			line = strings.Join(words, blank)
			for _, whole := range []string{line, blank + line, line + blank, blank + line + blank} {
				if got := s.Line(whole); !strings.HasPrefix(got, want) || strings.HasPrefix(got, "error") {
					t.Errorf("%q: %q", whole, got)
				}
			}
			if len(words) > 1 {
				says(t, s, strings.Join(words[:len(words)-1], blank), "error 301")
				says(t, s, strings.Join(words[:len(words)-1], blank)+blank, "error 301")
				if words[0] != "crash" {
					says(t, s, words[0], "error 301")
				}
			}
			if !rest[words[0]] {
				says(t, s, line+blank+"more", "error 301")
			}
		}
	}
	if s := New(); s.Line("crash") != "ok" || s.Line("crash a 1 b 2 c 3") != "ok" || s.Line("crash a 1 b") != "error 301" {
		t.Error("crash")
	}
}

func TestCommands(t *testing.T) {
	s := New()
	for _, line := range []string{"foo", "Tick 5", "ticks", "tick5", "tick,5", "\x00", "\r", "now\r", "now\n", "tick\n5", "é", "\xff", "error", "quit", "help", "-", "0", "now#"} {
		says(t, s, line, "error 300")
	}
	for _, line := range []string{"", " ", "\t", " \t \t ", "#", "# tick 5", "#tick 5", "  # x", "\t#\xff", "## foo bar"} {
		says(t, s, line, "")
	}
	says(t, s, "now", "0")
}

func TestNumbers(t *testing.T) {
	s := New()
	for _, n := range []string{"x", "-1", "+1", "1.0", "1e3", "0x1", "5_0", "00000000000000001", "12345678901234567", "1125899906842625", "9999999999999999", "\xff", "٣"} {
		says(t, s, "tick "+n, "error 1")
		if n != "1125899906842625" && n != "9999999999999999" {
			says(t, s, "crash a "+n, "error 1")
			says(t, s, "crash a 1 b "+n, "error 1")
		}
	}
	says(t, s, "crash a 9999999999999999 b 0", "ok")
	says(t, s, "crash a 1 a 1", "error 1")
	says(t, s, "tick 0000000000000007", "ok")
	says(t, s, "now", "7")
	says(t, s, "tick 1125899906842624", "ok")
	// A line that is not as the table has it has no number.
	says(t, s, "tick x y", "error 301")
	says(t, s, "crash a x b", "error 301")
}

// The body of post: \n, \\, and another \.
func TestPost(t *testing.T) {
	for text, want := range map[string]string{
		`a`: "a", `a b`: "a b", `a\nb`: "a\nb", `\n`: "\n", `\\`: `\`, `\\n`: `\n`, `\\\n`: "\\\n", `\\\\`: `\\`, `\x\"\`: `\x\"\`, `\`: `\`, `\\\`: `\\`, `n\nn`: "n\nn", `\N`: `\N`, `\\\\n\n\`: "\\\\n\n\\",
	} {
		if got := unescaped(text); got != want {
			t.Errorf("%q: %q; want %q", text, got, want)
		}
	}
	s := New()
	says(t, s, `post /api/write up{a="x\\ny"} 1\n# HELP a \x\nload   2 5 `, `200 {"accepted":2,"refused":[]}`)
	says(t, s, "series", "load 1\nup{a=\"x\\ny\"} 1")
	says(t, s, "get /api/query?query=load&time=5", `200 {"type":"vector","text":"load 2"}`)
	says(t, s, "post\t/api/write\t \tz 1\t", `200 {"accepted":1,"refused":[]}`)
	says(t, s, "post nope x", `400 {"error":280,"at":5}`)
	says(t, s, "post /api/write x", `400 {"error":120,"at":0}`)
	// As long as a line, and so a body, may be.
	says(t, s, "post /api/write #"+strings.Repeat("x", 65536-len("post /api/write #")), `200 {"accepted":0,"refused":[]}`)
}

func TestLongLines(t *testing.T) {
	s := New()
	for _, line := range []string{"#", "now ", " ", "tick 5", "foo", "post /x "} {
		long := line + strings.Repeat(" ", 65536-len(line))
		if got := s.Line(long); got == "error 4" {
			t.Errorf("%q", line)
		}
		says(t, s, long+" ", "error 4")
		says(t, s, line+strings.Repeat("x", 65537-len(line)), "error 4")
	}
	says(t, s, strings.Repeat("x", 65536), "error 300")
	says(t, s, strings.Repeat("#", 65536), "")
	says(t, s, "take "+strings.Repeat("x", 65531), "error 204")
	says(t, s, "labels "+strings.Repeat("x", 65529), "error 3 at 0")
}

func TestNil(t *testing.T) {
	for _, s := range []*Shell{nil, {}} {
		for _, line := range []string{"", "now", "foo", "# x", "expr 1", strings.Repeat("x", 70000)} {
			says(t, s, line, "error 2")
		}
	}
}

// What the machine puts out, and what it tells of itself.
func TestMachine(t *testing.T) {
	s := New()
	for _, c := range [][2]string{
		{"config", "resolve 5m\nlookback 5m\nreceiver default\nroute receiver default wait 30s interval 5m repeat 4h\n"},
		{"counts", "0 0"}, {"files", ""}, {"series", ""}, {"active", ""}, {"alerts", ""}, {"silences", ""}, {"marks", ""},
		{`post /reload receiver team\nreceiver pager\ngroup g every 1s\nalert "Down" for 2s expr up == 0\nroute receiver team by job wait 1s interval 1s\nroute parent 0 receiver pager match {job="b"} continue`, `200 {"groups":1,"routes":2}`},
		{`post /api/write up{job="a"} 0\nup{job="b"} 0\nup{job="b"} 0 0`, `200 {"accepted":3,"refused":[]}`},
		{"series", "up{job=\"a\"} 1\nup{job=\"b\"} 1"},
		{"refuse pager", "ok"},
		{"tick 0", "ok"},
		{"active", "{alertname=\"Down\",job=\"a\"} 1 0 -1 -1\n{alertname=\"Down\",job=\"b\"} 1 0 -1 -1"},
		{"alerts", ""},
		{"tick 2000", "ok"},
		{"active", "{alertname=\"Down\",job=\"a\"} 2 0 2000 -1\n{alertname=\"Down\",job=\"b\"} 2 0 2000 -1"},
		{"alerts", "{alertname=\"Down\",job=\"a\"} 2000 302000\n{alertname=\"Down\",job=\"b\"} 2000 302000"},
		{`post /api/silences {"matchers":"{x=\"1\"}","from":0,"to":9000}`, `200 {"id":1}`},
		{`post /api/silences {"matchers":"{y!=\"\",z=~\"a|b\"}","from":5000,"to":9000}`, `200 {"id":2}`},
		{"silences", "1 {x=\"1\"} 2000 9000\n2 {y!=\"\",z=~\"a|b\"} 5000 9000"},
		{"tick 3000", `notice {"at":3000,"receiver":"team","group":"0/{job=\"a\"}","status":"firing","alerts":[{"status":"firing","labels":{"alertname":"Down","job":"a"}}]}`},
		{"take pager", "ok"},
		{`post /api/write up{job="a"} 1`, `200 {"accepted":1,"refused":[]}`},
		{"tick 4000", `notice {"at":4000,"receiver":"pager","group":"1/{job=\"b\"}","status":"firing","alerts":[{"status":"firing","labels":{"alertname":"Down","job":"b"}}]}` + "\n" +
			`notice {"at":4000,"receiver":"team","group":"0/{job=\"a\"}","status":"resolved","alerts":[{"status":"resolved","labels":{"alertname":"Down","job":"a"}}]}`},
		{"marks", "\"pager\" \"1/{job=\\\"b\\\"}\" 4000 1 0\n\"team\" \"0/{job=\\\"a\\\"}\" 4000 0 1"},
		{"counts", "5 3"}, {"files", "data.00000001"}, {"now", "4000"},
		{"delete /api/silences?id=1", `200 {"id":1}`},
		{"delete /api/silences?id=1", `409 {"error":220}`},
		{"delete /api/silences", `400 {"error":301}`},
		{"get /nope", `404 {"error":5}`},
		{"get nope", `400 {"error":280,"at":4}`},
		{"get /api/write", `405 {"error":60}`},
		{"crash data.00000001 99999", "ok"},
		{"alerts", ""},
		{"silences", "1 {x=\"1\"} 2000 4000\n2 {y!=\"\",z=~\"a|b\"} 5000 9000"},
		{"take " + strings.Repeat("x", 65), "error 204"},
	} {
		if c[0] == "tick 4000" {
			// Its receiver refused at 3000: the second try is at 4000.
			says(t, s, "counts", "5 1")
		}
		says(t, s, c[0], c[1])
	}
}

// The commands that ask the layers alone, and the places of their errors.
func TestLayers(t *testing.T) {
	s := New()
	for _, c := range [][2]string{
		{"expr  sum(up)  by (a) ", "3 sum by (a) (up)"}, {"expr 1", "1 1"}, {`expr "a"`, `2 "a"`}, {"expr up[5m]", "4 up[5m]"}, {"expr up # x", "3 up"},
		{"expr !", "error 130 at 0"}, {"expr a[5m][5m]", "error 140 at 5"}, {"expr 1 > 2", "error 141 at 2"}, {"expr foo(1)", "error 60 at 1"}, {`expr {a=~"("}`, "error 50 at 0"}, {"expr 9999999y", "error 140 at 0"}, {"expr a offset 9999y", "error 7 at 9"},
		{`labels up { job = "x" , }`, `up{job="x"}`}, {"labels {}", "{}"}, {`labels {a="1",a="2"}`, "error 6 at 0"}, {"labels {a}", "error 3 at 2"}, {`labels {b="` + strings.Repeat("x", 257) + `",a="1"}`, "error 4 at 1"},
		{"regex a.* b", "no"}, {"regex a\\sb a b", "yes"}, {"regex a.*  ab  ", "yes"}, {"regex a.b a b", "yes"}, {"regex a** b", "error 50 at 2"}, {"regex ( b", "error 50 at 1"}, {"regex " + strings.Repeat("x", 257) + " b", "error 4 at 0"}, {"regex ((a{99}){99}) b", "error 7 at 0"},
		{"float 1e21", "1e+21"}, {"float NaN", "NaN"}, {"float -0", "-0"}, {"float x", "error 3"}, {"float 1e999", "+Inf"},
		{"span 1h30m", "5400000"}, {"span 0s", "0"}, {"span 30m1h", "error 130"}, {"span 9999y", "error 7"},
		{`json {"a" : [null, true, "x\u00e9"] } `, `{"a":[null,true,"xé"]}`}, {"json [01]", "error 281 at 2"}, {`json {"a":1,"a":2}`, "error 6 at 7"}, {"json 1e999", "error 7 at 0"}, {"json " + strings.Repeat("[", 51), "error 51 at 50"}, {"json 1 2", "error 281 at 2"},
	} {
		says(t, s, c[0], c[1])
	}
	if n, m := s.machine.Counts(); n != 0 || m != 0 {
		t.Error("the machine was asked")
	}
}

// What a line has to tell may be too much; what it did stands.
func TestTooLong(t *testing.T) {
	s := New()
	value := strings.Repeat("a", 250)
	posted := 0
	for size := 0; size < 1<<20; {
		var b strings.Builder
		for b.Len() < 56000 {
			line := fmt.Sprintf(`m{n="%d"`, posted)
			for c := 'a'; c < 'n'; c++ {
				line += fmt.Sprintf(`,%c="%s"`, c, value)
			}
			size += len(line) + 4
			b.WriteString(line + `} 1\n`)
			posted++
		}
		says(t, s, "post /api/write "+b.String(), fmt.Sprintf(`200 {"accepted":%d,"refused":[]}`, strings.Count(b.String(), `\n`)))
	}
	says(t, s, "series", "error 4")
	says(t, s, `post /reload receiver team\ngroup g every 1s\nalert "A" expr m\nroute receiver team by n wait 0s`, `200 {"groups":1,"routes":1}`)
	says(t, s, "tick 7", "error 4")
	says(t, s, "now", "7")
	says(t, s, "active", "error 4")
	if _, n := s.machine.Counts(); n != int64(posted) {
		t.Error(n, posted)
	}
}

func TestP30_2(t *testing.T) {
	for _, c := range [][2]string{
		{"", ""},
		{"\n\n \n# x\n", ""},
		{"now", "0\n"},
		{"now\n", "0\n"},
		{"tick 5\nnow\n\nfoo\n# x\nnow", "ok\n5\nerror 300\n5\n"},
		{"files\nnow", "0\n"}, // no files: an empty text
		{"now\r\nnow", "error 300\n0\n"},
		{"config", "resolve 5m\nlookback 5m\nreceiver default\nroute receiver default wait 30s interval 5m repeat 4h\n\n"},
	} {
		if got := Run(c[0]); got != c[1] {
			t.Errorf("%q: %q; want %q", c[0], got, c[1])
		}
	}
	most := strings.Repeat("now\n", 16384)
	if got := Run(most); got != strings.Repeat("0\n", 16384) {
		t.Error(len(got))
	}
	for _, long := range []string{most + "\n", most + most, strings.Repeat("x", 65537)} {
		if got := Run(long); got != "error 4" {
			t.Errorf("%.100q", got)
		}
	}
	if got := Run(strings.Repeat("x", 65536)); got != "error 300\n" {
		t.Errorf("%.100q", got)
	}
}

// The lines that a shell was told are counted, whatever it answered.
func TestCounted(t *testing.T) {
	s := New()
	for _, line := range []string{"now", "", "# x", "foo", strings.Repeat("x", 70000)} {
		s.Line(line)
	}
	if n := s.told.Load(); n != 5 {
		t.Error(n)
	}
}
