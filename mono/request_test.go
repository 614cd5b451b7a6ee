package mono

import (
	"fmt"
	"strings"
	"testing"

	"tocsin/api"
	"tocsin/http"
)

// What can not be read is told with its place.
func TestRequest_Unreadable(t *testing.T) {
	m := New()
	for text, want := range map[string]string{
		"":                                 `{"error":280,"at":0}`,
		"GET":                              `{"error":280,"at":3}`,
		"get /status HTTP/1.1\r\n\r\n":     `{"error":280,"at":0}`,
		"GET status HTTP/1.1\r\n\r\n":      `{"error":280,"at":4}`,
		"GET /status HTTP/1.1\n\n":         `{"error":280,"at":20}`,
		"GET /status HTTP/1.1\r\n\r\nx":    `{"error":280,"at":24}`,
		"GET /status?x HTTP/1.1\r\n\r\n":   `{"error":280,"at":4}`,
		"GET /nope HTTP/1.0\r\n\r\n":       `{"error":280,"at":10}`,
		strings.Repeat("x", 98304):         `{"error":280,"at":0}`,
		strings.Repeat("x", 98305):         `{"error":4,"at":0}`,
		"\xff\x00":                         `{"error":280,"at":0}`,
		request("PATCH", "/status", ""):    `{"error":280,"at":0}`,
		request("GET", "/a?q=%ff", ""):     `{"error":280,"at":4}`,
		request("GET", "/status", "") + "": `{"now":0,"series":0,"samples":0,"blocks":0,"silences":0,"requests":R,"notices":0}`,
	} {
		n, _ := m.Counts()
		code := 400
		if strings.HasPrefix(want, `{"now"`) {
			code, want = 200, strings.Replace(want, "R", fmt.Sprint(n), 1)
		}
		says(t, m, api.Entry{Kind: api.ERequest, Text: text, N: 7, Keeps: []api.Keep{{N: -1}}}, code, want)
	}
}

// Each method with each path.
func TestRequest_Table(t *testing.T) {
	m := New()
	has := map[string]bool{"POST /api/write": true, "GET /api/query": true, "GET /api/alerts": true, "POST /api/silences": true, "DELETE /api/silences": true, "GET /api/silences": true, "POST /reload": true, "GET /status": true}
	for _, path := range []string{"/api/write", "/api/query", "/api/alerts", "/api/silences", "/reload", "/status"} {
		for _, method := range []string{"GET", "POST", "PUT", "DELETE"} {
			out := did(t, m, asked(method, path, ""))
			code, kind, body, e := http.Read([]byte(out[0].Answer))
			if (code != 405) != has[method+" "+path] || code == 404 || e != api.OK || kind != "application/json" {
				t.Error(method, path, code, kind, body)
			}
			if code == 405 && body != `{"error":60}` {
				t.Error(body)
			}
			says(t, m, asked(method, path+"/", ""), 404, `{"error":5}`)
		}
	}
	for _, path := range []string{"/", "/api", "/api/", "/API/write", "//status", "/status.", "/reload-", "/api/silences/1", "/" + strings.Repeat("a", 255)} {
		for _, method := range []string{"GET", "POST", "PUT", "DELETE"} {
			says(t, m, asked(method, path, ""), 404, `{"error":5}`)
		}
	}
	// A query and a body that nobody asks for are of no matter.
	says(t, m, asked("GET", "/api/alerts?query=x&id=-1", "body"), 200, `{"alerts":[]}`)
}

func TestRequest_Write(t *testing.T) {
	m := New()
	ticks(t, m, 1000)
	for _, c := range []struct {
		body string
		code int
		want string
	}{
		{"", 200, `{"accepted":0,"refused":[]}`},
		{"# nothing\n\n", 200, `{"accepted":0,"refused":[]}`},
		{"up 1", 200, `{"accepted":1,"refused":[]}`},
		{"up 1\n", 200, `{"accepted":1,"refused":[]}`},           // it is there already
		{"up 2\n", 409, `{"accepted":0,"refused":[[0,6]]}`},      // with another value
		{"up 1 999\n", 409, `{"accepted":0,"refused":[[0,90]]}`}, // an older one
		{"up 1 1001\nup 2 1002\nup 3 1001\nup 4 1002\nup 2 1002\n", 409, `{"accepted":3,"refused":[[2,90],[3,6]]}`},
		{"x 1 1125899906842624\n", 200, `{"accepted":1,"refused":[]}`},
		{"x 1\n", 409, `{"accepted":0,"refused":[[0,90]]}`},
		{"x 1 1125899906842625\n", 400, `{"error":120,"at":0}`},
		{"y 1\nz 1\ny{ 1\n", 400, `{"error":120,"at":2}`}, // none of them is put
		{"\xff", 400, `{"error":120,"at":0}`},
		{"nan NaN 0\nnan NaN 0\nnan 0 0\nzero -0\nzero 0\n", 409, `{"accepted":3,"refused":[[2,6],[4,6]]}`},
	} {
		says(t, m, post("/api/write", c.body), c.code, c.want)
	}
	if got := bitsOf(m.Series()); got != "[{__name__ nan}] 0:7ff8000000000001\n[{__name__ up}] 1000:3ff0000000000000 1001:3ff0000000000000 1002:4000000000000000\n[{__name__ x}] 1125899906842624:3ff0000000000000\n[{__name__ zero}] 1000:8000000000000000\n" {
		t.Error(got)
	}
	// Each sample has one record, that is synced; one that was there already has none.
	if got := kinds(t, m); got != "111111" {
		t.Error(got)
	}
	if have, synced, _ := m.disk.Size("data.00000001"); have != synced {
		t.Error(have, synced)
	}
}

// Beyond the room of a head.
func TestRequest_WriteFull(t *testing.T) {
	m := New()
	var b strings.Builder
	for i := range 1000 {
		fmt.Fprintf(&b, "m{n=\"%d\"} 1\n", i)
	}
	wrote(t, m, b.String())
	says(t, m, post("/api/write", "m 1\nm{n=\"7\"} 1\nm{n=\"7\"} 1 1\n"), 409, `{"accepted":2,"refused":[[0,8]]}`)
	says(t, m, get("/status"), 200, `{"now":0,"series":1000,"samples":1001,"blocks":0,"silences":0,"requests":2,"notices":0}`)
}

// All samples of a series that has very many of them are put in time.
func TestRequest_WriteMany(t *testing.T) {
	m := New()
	n := 0
	for n < 100000 {
		var b strings.Builder
		for b.Len() < 60000 && n < 100000 {
			fmt.Fprintf(&b, "a 1 %d\n", n)
			n++
		}
		wrote(t, m, b.String())
	}
	says(t, m, post("/api/write", "a 1 99999\na 1 100000\nb 1\n"), 409, `{"accepted":1,"refused":[[1,8],[2,8]]}`)
	ticks(t, m, 1)
	says(t, m, query("count_over_time(a[1d] offset 1ms)"), 200, `{"type":"vector","text":"{} 1"}`)
	says(t, m, get("/api/query?time=99999&query="+http.Escape("count_over_time(a[1d])")), 200, `{"type":"vector","text":"{} 100000"}`)
	did(t, m, crash())
	says(t, m, get("/api/query?time=99999&query="+http.Escape("count_over_time(a[1d])")), 200, `{"type":"vector","text":"{} 100000"}`)
}

func TestRequest_Query(t *testing.T) {
	m := loaded(t, "lookback 10s\nreceiver team\nroute receiver team\n")
	wrote(t, m, "up{job=\"a\"} 1 5000\nup{job=\"b\"} 0.5 6000\n")
	ticks(t, m, 9000)
	for _, c := range []struct {
		target string
		code   int
		want   string
	}{
		{"?query=up", 200, `{"type":"vector","text":"up{job=\"a\"} 1\nup{job=\"b\"} 0.5"}`},
		{"?query=up&time=14999", 200, `{"type":"vector","text":"up{job=\"a\"} 1\nup{job=\"b\"} 0.5"}`},
		{"?query=up&time=15000", 200, `{"type":"vector","text":"up{job=\"b\"} 0.5"}`},
		{"?time=5000&query=up", 200, `{"type":"vector","text":"up{job=\"a\"} 1"}`},
		{"?query=up&time=0", 200, `{"type":"vector","text":""}`},
		{"?query=up&query=nope&time=5000&time=x", 200, `{"type":"vector","text":"up{job=\"a\"} 1"}`},
		{"?query=1%2B1", 200, `{"type":"scalar","text":"2"}`},
		{"?query=time()", 200, `{"type":"scalar","text":"9"}`},
		{"?query=%22a%5Cn%C3%A9%22", 200, `{"type":"string","text":"\"a\\né\""}`},
		{"?query=up%5B1m%5D", 200, `{"type":"matrix","text":"up{job=\"a\"} 1@5000\nup{job=\"b\"} 0.5@6000"}`},
		{"", 400, `{"error":301}`},
		{"?", 400, `{"error":301}`},
		{"?time=x", 400, `{"error":301}`},
		{"?Query=up", 400, `{"error":301}`},
		{"?query=up&time=", 400, `{"error":1}`},
		{"?query=up&time=-1", 400, `{"error":1}`},
		{"?query=up&time=%2B1", 400, `{"error":1}`},
		{"?query=up&time=1.5", 400, `{"error":1}`},
		{"?query=up&time=1e3", 400, `{"error":1}`},
		{"?query=up%2B&time=x", 400, `{"error":1}`},
		{"?query=up&time=0000000000005000", 200, `{"type":"vector","text":"up{job=\"a\"} 1"}`},
		{"?query=up&time=00000000000005000", 400, `{"error":1}`},
		{"?query=time()&time=1125899906842624", 200, `{"type":"scalar","text":"1125899906842.624"}`},
		{"?query=time()&time=1125899906842625", 422, `{"error":1,"at":0}`},
		{"?query=time()&time=9999999999999999", 422, `{"error":1,"at":0}`},
		{"?query=time()&time=10000000000000000", 400, `{"error":1}`},
		{"?query=up%2B", 422, `{"error":140,"at":3}`},
		{"?query=up%2B&time=9999999999999999", 422, `{"error":140,"at":3}`},
		{"?query=", 422, `{"error":140,"at":0}`},
		{"?query=!", 400, `{"error":280,"at":4}`},
		{"?query=%21", 422, `{"error":130,"at":0}`},
		{"?query=nope(up)", 422, `{"error":60,"at":0}`},
		{"?query=1%3E2", 422, `{"error":141,"at":0}`},
		{"?query=up/on()up", 400, `{"error":280,"at":4}`},
		{"?query=up%2Fon%28%29up", 422, `{"error":150,"at":0}`},
		{"?query=up%5B2y%5D%2B1", 422, `{"error":141,"at":0}`},
	} {
		// ( and ) can not stand in a query.
		target := strings.NewReplacer("()", "%28%29", "(up)", "%28up%29").Replace(c.target)
		if c.target == "?query=up/on()up" {
			target = c.target
		}
		says(t, m, get("/api/query"+target), c.code, c.want)
	}
}

// A text that would be too long.
func TestRequest_QueryLong(t *testing.T) {
	m := New()
	for i := range 5 {
		var b strings.Builder
		for k := range 57 {
			fmt.Fprintf(&b, "m{a=\"%s\",n=\"%d\"} 1\n", strings.Repeat("a", 250), 100*i+k)
		}
		wrote(t, m, b.String())
	}
	says(t, m, query("m"), 422, `{"error":4}`)
	says(t, m, query("count(m)"), 200, `{"type":"vector","text":"{} 285"}`)
}

func TestRequest_Alerts(t *testing.T) {
	m := loaded(t, `receiver team
group g every 1s
alert "Slow" for 5s expr up == 0
record x expr up
alert "Down é\"" labels {severity="critical"} expr up == 0
route receiver team
`)
	says(t, m, get("/api/alerts"), 200, `{"alerts":[]}`)
	wrote(t, m, "up{job=\"b\"} 0\nup{job=\"a\"} 0\n")
	ticks(t, m, 3)
	says(t, m, get("/api/alerts"), 200, `{"alerts":[`+
		`{"labels":"{alertname=\"Slow\",job=\"a\"}","state":"pending","since":3},`+
		`{"labels":"{alertname=\"Slow\",job=\"b\"}","state":"pending","since":3},`+
		`{"labels":"{alertname=\"Down é\\\"\",job=\"a\",severity=\"critical\"}","state":"firing","since":3},`+
		`{"labels":"{alertname=\"Down é\\\"\",job=\"b\",severity=\"critical\"}","state":"firing","since":3}]}`)
}

func TestRequest_AddSilence(t *testing.T) {
	m := New()
	ticks(t, m, 100)
	for _, c := range []struct {
		body string
		code int
		want string
	}{
		{`{"matchers":"{a=\"1\"}","from":0,"to":200}`, 200, `{"id":1}`},
		{` { "to" : 1e3 , "other" : [ {} ] , "from" : 5.0 , "matchers" : "{ a = \"1\" , }" } `, 200, `{"id":2}`},
		{`{"matchers":"{a=\"1\"}","from":-0,"to":200}`, 200, `{"id":3}`},
		{`{"matchers":"{a=\"1\"}","from":0,"to":1127000000000000}`, 422, `{"error":1}`},
		{`{"matchers":"{a=\"1\"}","from":0,"to":1126999418470400}`, 200, `{"id":4}`},
		// The body's own faults, with their places.
		{``, 400, `{"error":281,"at":0}`},
		{`{`, 400, `{"error":281,"at":1}`},
		{`{"a":1,"a":2}`, 400, `{"error":6,"at":7}`},
		{`{"to":1e999}`, 400, `{"error":7,"at":6}`},
		{strings.Repeat("[", 51), 400, `{"error":51,"at":50}`},
		{`{"matchers":"{a=\"1\"}","from":0,"to":200}x`, 400, `{"error":281,"at":42}`},
		// Another thing than there should be.
		{`[]`, 400, `{"error":281}`},
		{`null`, 400, `{"error":281}`},
		{`"matchers"`, 400, `{"error":281}`},
		{`{}`, 400, `{"error":281}`},
		{`{"from":0,"to":200}`, 400, `{"error":281}`},
		{`{"matchers":"{a=\"1\"}","to":200}`, 400, `{"error":281}`},
		{`{"matchers":"{a=\"1\"}","from":0}`, 400, `{"error":281}`},
		{`{"matchers":"{","From":0,"to":200}`, 400, `{"error":281}`},
		{`{"matchers":["{a=\"1\"}"],"from":0,"to":200}`, 400, `{"error":281}`},
		{`{"matchers":7,"from":0,"to":200}`, 400, `{"error":281}`},
		{`{"matchers":null,"from":0,"to":200}`, 400, `{"error":281}`},
		{`{"matchers":"{a=\"1\"}","from":"0","to":200}`, 400, `{"error":281}`},
		{`{"matchers":"{a=\"1\"}","from":0,"to":true}`, 400, `{"error":281}`},
		{`{"matchers":"{a=\"1\"}","from":0.5,"to":200}`, 400, `{"error":281}`},
		{`{"matchers":"{a=\"1\"}","from":-1,"to":200}`, 400, `{"error":281}`},
		{`{"matchers":"{a=\"1\"}","from":0,"to":2251799813685248}`, 422, `{"error":1}`},
		{`{"matchers":"{a=\"1\"}","from":0,"to":2251799813685249}`, 400, `{"error":281}`},
		{`{"matchers":"{a=\"1\"}","from":1e300,"to":200}`, 400, `{"error":281}`},
		{`{"matchers":"{","from":0,"to":200.5}`, 400, `{"error":281}`}, // looked at ahead of the matchers
		// Matchers, with their places.
		{`{"matchers":"","from":0,"to":0}`, 400, `{"error":3,"at":0}`},
		{`{"matchers":"{a==\"1\"}","from":0,"to":0}`, 400, `{"error":3,"at":3}`},
		{`{"matchers":"{a=\"1\",b=~\"(\"}","from":0,"to":0}`, 400, `{"error":50,"at":1}`},
		// What can not be a silence.
		{`{"matchers":"{}","from":0,"to":200}`, 422, `{"error":3}`},
		{`{"matchers":"{a=~\".*\"}","from":0,"to":200}`, 422, `{"error":3}`},
		{`{"matchers":"{a=\"1\"}","from":0,"to":100}`, 422, `{"error":1}`},
		{`{"matchers":"{a=\"1\"}","from":150,"to":150}`, 422, `{"error":1}`},
	} {
		before := len(logged(t, m))
		says(t, m, post("/api/silences", c.body), c.code, c.want)
		if more := len(logged(t, m)) - before; more > 1 || (more == 1) != (c.code == 200) {
			t.Error(c.body, more, "records")
		}
	}
	if got := fmt.Sprint(m.Silences()); got != "[{1 [{1 a 1}] 100 200} {2 [{1 a 1}] 100 1000} {3 [{1 a 1}] 100 200} {4 [{1 a 1}] 100 1126999418470400}]" {
		t.Error(got)
	}
	says(t, m, get("/api/silences"), 200, `{"silences":[{"id":1,"matchers":"{a=\"1\"}","from":100,"to":200},{"id":2,"matchers":"{a=\"1\"}","from":100,"to":1000},{"id":3,"matchers":"{a=\"1\"}","from":100,"to":200},{"id":4,"matchers":"{a=\"1\"}","from":100,"to":1126999418470400}]}`)
}

func TestRequest_SilencesFull(t *testing.T) {
	m := New()
	for i := range 200 {
		says(t, m, quiet(`{a="1"}`, 0, 100), 200, fmt.Sprintf(`{"id":%d}`, i+1))
	}
	says(t, m, quiet(`{a="1"}`, 0, 100), 422, `{"error":8}`)
	did(t, m, crash())
	says(t, m, quiet(`{a="1"}`, 0, 100), 422, `{"error":8}`)
}

func TestRequest_EndSilence(t *testing.T) {
	m := New()
	ticks(t, m, 10)
	says(t, m, get("/api/silences"), 200, `{"silences":[]}`)
	says(t, m, quiet(`{a="1",b!~"c\n\"é"}`, 0, 100), 200, `{"id":1}`)
	says(t, m, quiet(`{a="1"}`, 50, 60), 200, `{"id":2}`)
	ticks(t, m, 20)
	for _, c := range []struct {
		target string
		code   int
		want   string
	}{
		{"", 400, `{"error":301}`},
		{"?ID=1", 400, `{"error":301}`},
		{"?id=", 400, `{"error":1}`},
		{"?id=-1", 400, `{"error":1}`},
		{"?id=%2B1", 400, `{"error":1}`},
		{"?id=1.0", 400, `{"error":1}`},
		{"?id=00000000000000001", 400, `{"error":1}`},
		{"?id=0", 404, `{"error":5}`},
		{"?id=3", 404, `{"error":5}`},
		{"?id=9999999999999999", 404, `{"error":5}`},
		{"?id=0000000000000001", 200, `{"id":1}`},
		{"?id=1", 409, `{"error":220}`},
		{"?id=2&id=1", 200, `{"id":2}`},
		{"?id=2", 409, `{"error":220}`},
	} {
		before := len(logged(t, m))
		says(t, m, del("/api/silences"+c.target), c.code, c.want)
		if more := len(logged(t, m)) - before; more > 1 || (more == 1) != (c.code == 200) {
			t.Error(c.target, more, "records")
		}
	}
	want := `{"silences":[{"id":1,"matchers":"{a=\"1\",b!~\"c\\n\\\"é\"}","from":10,"to":20},{"id":2,"matchers":"{a=\"1\"}","from":20,"to":20}]}`
	says(t, m, get("/api/silences"), 200, want)
	did(t, m, crash())
	says(t, m, get("/api/silences"), 200, want)
}

func TestRequest_Reload(t *testing.T) {
	m := New()
	ticks(t, m, 7)
	for _, c := range []struct {
		body string
		code int
		want string
	}{
		{"", 400, `{"error":204,"at":0}`},
		{"receiver team\nreceiver team\n", 400, `{"error":204,"at":1}`},
		{"receiver team\n", 400, `{"error":202,"at":0}`},
		{"receiver team\nroute receiver nobody\n", 400, `{"error":202,"at":0}`},
		{"receiver team\nalert \"A\" expr up\n", 400, `{"error":120,"at":1}`},
		{"receiver team\nroute receiver team\ngroup g every 1s\nalert \"A\" expr up +\n", 400, `{"error":201,"at":0}`},
		{"receiver team\nroute receiver team\ngroup g every 1s\ngroup g every 1s\n", 400, `{"error":200,"at":1}`},
		{"receiver team\nroute receiver team\ninhibit source {} target {}\n", 400, `{"error":203,"at":0}`},
		{"resolve 0s\nreceiver team\nroute receiver team\n", 400, `{"error":1,"at":0}`},
	} {
		says(t, m, post("/reload", c.body), c.code, c.want)
	}
	if _, at := m.Config(); at != 0 || len(m.Files()) != 0 {
		t.Error(at, m.Files())
	}
	reloaded(t, m, "# a remark\nreceiver team\r\nroute receiver team by a\nroute parent 0 receiver team match {a=\"1\"}\ngroup g every 1s\ngroup h every 1s\n")
	if c, at := m.Config(); at != 7 || len(c.Groups) != 2 || len(c.Routes) != 2 || c.Routes[1].By[0] != "a" {
		t.Error(c, at)
	}
	if got := kinds(t, m); got != "34" {
		t.Error(got)
	}
}

// Of a configuration that can be read, but whose own text would be too long.
func TestRequest_ReloadLong(t *testing.T) {
	m := New()
	says(t, m, post("/reload", longConfig(65537)), 422, `{"error":4}`)
	if _, at := m.Config(); at != 0 || len(m.Files()) != 0 {
		t.Error("changed")
	}
	// The greatest that the log takes: a byte, one of the time, three of the length.
	reloaded(t, m, longConfig(65531))
	did(t, m, crash())
	if c, _ := m.Config(); len(c.Groups) != 3 {
		t.Error(c)
	}
}

// longConfig answers a configuration that config.Print tells with so many bytes.
func longConfig(size int) string {
	const ahead, behind = "resolve 5m\nlookback 5m\nreceiver team\n", "route receiver team wait 30s interval 5m repeat 4h\n"
	const written = "receiver team\nroute receiver team\n"
	var b strings.Builder
	for g := range 3 {
		fmt.Fprintf(&b, "group g%d every 1s\n", g)
		for range 64 {
			fmt.Fprintf(&b, "alert %q for 10s expr up\n", strings.Repeat("a", 100))
		}
	}
	// The rest stands in the labels of a fourth of them.
	left := size - len(ahead) - len(behind) - b.Len()
	text := b.String()
	for i := 0; left > 0; i++ {
		n := min(left, 250+len(`labels {a=""} `))
		if rest := left - n; rest > 0 && rest < 20 {
			n -= 20
		}
		values := n - len(`labels {a=""} `)
		text = strings.Replace(text, "for 10s expr", fmt.Sprintf(`for 10s labels {a="%s"} expr`, strings.Repeat("v", values)), 1)
		left -= n
	}
	return written + text
}

// What would have more than MaxFile bytes is told by its error; the alerts and the silences stay as they are.
func TestRequest_TooLong(t *testing.T) {
	m := loaded(t, "receiver team\ngroup g every 1s\nalert \"A\" expr m\nroute receiver team\n")
	value := strings.Repeat(`\"`, 250)
	for i := range 9 {
		var b strings.Builder
		for k := range 9 {
			fmt.Fprintf(&b, `m{n="%d"`, 10*i+k)
			for c := 'a'; c < 'n'; c++ {
				fmt.Fprintf(&b, `,%c="%s"`, c, value)
			}
			b.WriteString("} 1\n")
		}
		wrote(t, m, b.String())
	}
	ticks(t, m, 0)
	if len(m.Active()) != 81 {
		t.Error(len(m.Active()))
	}
	says(t, m, get("/api/alerts"), 500, `{"error":4}`)
	var matchers []string
	for i := range 16 {
		matchers = append(matchers, fmt.Sprintf(`n%d="%s"`, i, value))
	}
	body := `{"matchers":"{` + strings.ReplaceAll(strings.ReplaceAll(strings.Join(matchers, ","), `\`, `\\`), `"`, `\"`) + `}","from":0,"to":9}`
	for i := range 64 {
		says(t, m, post("/api/silences", body), 200, fmt.Sprintf(`{"id":%d}`, i+1))
	}
	out := did(t, m, get("/api/silences"))
	code, _, told, _ := http.Read([]byte(out[0].Answer))
	for code == 200 {
		did(t, m, post("/api/silences", body))
		longer := did(t, m, get("/api/silences"))
		var next string
		if code, _, next, _ = http.Read([]byte(longer[0].Answer)); code == 200 {
			told = next
		}
	}
	// One more would have made it longer than it may be.
	one := (len(told) - len(`{"silences":[]}`)) / (len(m.Silences()) - 1)
	if code != 500 || len(told) > 1<<20 || len(told)+one <= 1<<20 {
		t.Error(code, len(told), one)
	}
	says(t, m, get("/api/silences"), 500, `{"error":4}`)
}

func TestRequest_Status(t *testing.T) {
	m := loaded(t, "receiver team\ngroup g every 1s\nalert \"A\" expr up\nroute receiver team wait 0s\n")
	wrote(t, m, "up{a=\"1\"} 1\nup{a=\"2\"} 1\nup{a=\"2\"} 1 5\n")
	says(t, m, quiet(`{x="1"}`, 0, 100), 200, `{"id":1}`)
	says(t, m, get("/status"), 200, `{"now":0,"series":2,"samples":3,"blocks":0,"silences":1,"requests":3,"notices":0}`)
	says(t, m, api.Entry{Kind: api.ERequest}, 400, `{"error":280,"at":0}`)
	ticks(t, m, 9, "team 1,2/")
	says(t, m, get("/status"), 200, `{"now":9,"series":2,"samples":3,"blocks":0,"silences":1,"requests":5,"notices":1}`)
	for i := range 40 {
		wrote(t, m, fmt.Sprintf("up{a=\"1\"} 1 %d\n", 10+i))
	}
	ticks(t, m, 9)
	says(t, m, get("/status"), 200, `{"now":9,"series":0,"samples":0,"blocks":1,"silences":1,"requests":46,"notices":1}`)
	did(t, m, crash())
	says(t, m, get("/status"), 200, `{"now":9,"series":0,"samples":0,"blocks":1,"silences":1,"requests":47,"notices":1}`)
}
