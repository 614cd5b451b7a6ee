package mono

import (
	"fmt"
	"math"
	"slices"
	"strconv"
	"strings"
	"testing"

	"tocsin/api"
	"tocsin/config"
	"tocsin/http"
	"tocsin/wal"
)

const (
	maxTime = int64(1) << 50
	maxSpan = int64(1) << 40
)

// of answers the labels of names and values, as they stand.
func of(words ...string) []api.Label {
	var l []api.Label
	for i := 0; i < len(words); i += 2 {
		l = append(l, api.Label{Name: words[i], Value: words[i+1]})
	}
	return l
}

func request(method, target, body string) string {
	if body == "" {
		return method + " " + target + " HTTP/1.1\r\n\r\n"
	}
	return method + " " + target + " HTTP/1.1\r\nContent-Length: " + strconv.Itoa(len(body)) + "\r\n\r\n" + body
}

func asked(method, target, body string) api.Entry {
	return api.Entry{Kind: api.ERequest, Text: request(method, target, body)}
}

func get(target string) api.Entry        { return asked("GET", target, "") }
func del(target string) api.Entry        { return asked("DELETE", target, "") }
func post(target, body string) api.Entry { return asked("POST", target, body) }
func tick(n int64) api.Entry             { return api.Entry{Kind: api.ETick, N: n} }
func take(name string) api.Entry         { return api.Entry{Kind: api.EAnswer, Text: name, N: 1} }
func refuse(name string) api.Entry       { return api.Entry{Kind: api.EAnswer, Text: name} }
func crash(l ...api.Keep) api.Entry      { return api.Entry{Kind: api.ECrash, Keeps: l} }
func query(expr string) api.Entry        { return get("/api/query?query=" + http.Escape(expr)) }

// quiet answers the request of a silence from a time to another one.
func quiet(matchers string, from, to int64) api.Entry {
	return post("/api/silences", fmt.Sprintf(`{"matchers":%q,"from":%d,"to":%d}`, matchers, from, to))
}

// did takes a step that must be OK.
func did(t *testing.T, m *Machine, e api.Entry) []api.Out {
	t.Helper()
	out, fault := m.Step(e)
	if fault != api.OK {
		t.Fatalf("%v: error %d", e, fault)
	}
	return out
}

// says holds the answer to a request against its code and its body.
func says(t *testing.T, m *Machine, e api.Entry, code int, body string) {
	t.Helper()
	out := did(t, m, e)
	if len(out) != 1 {
		t.Fatalf("%.200q: %d things are put out", e.Text, len(out))
	}
	want, _ := http.Answer(code, "application/json", body)
	if out[0].Answer != string(want) || out[0].Notice.Receiver != "" {
		t.Errorf("%.200q: %.500q; want %.500q", e.Text, out[0].Answer, want)
	}
}

// ticks takes a tick, and holds the notifications against what is wanted, each the receiver, a blank, and what fires, and is resolved, in /.
func ticks(t *testing.T, m *Machine, n int64, want ...string) []api.Out {
	t.Helper()
	out := did(t, m, tick(n))
	var got []string
	for _, x := range out {
		if x.Answer != "" || x.Notice.At != n {
			t.Errorf("tick %d: %v", n, x)
		}
		got = append(got, x.Notice.Receiver+" "+setsText(x.Notice.Firing)+"/"+setsText(x.Notice.Resolved))
	}
	if !slices.Equal(got, want) {
		t.Errorf("tick %d: %q; want %q", n, got, want)
	}
	return out
}

// setsText tells label sets, each by the values of its labels but the alert's name.
func setsText(l [][]api.Label) string {
	var out []string
	for _, set := range l {
		var values []string
		for _, one := range set {
			if one.Name != "alertname" {
				values = append(values, one.Value)
			}
		}
		out = append(out, strings.Join(values, "."))
	}
	return strings.Join(out, ",")
}

// wrote puts samples, all of which must be accepted.
func wrote(t *testing.T, m *Machine, lines string) {
	t.Helper()
	says(t, m, post("/api/write", lines), 200, fmt.Sprintf(`{"accepted":%d,"refused":[]}`, strings.Count(lines, "\n")))
}

// loaded answers a machine of a configuration.
func loaded(t *testing.T, text string) *Machine {
	t.Helper()
	m := New()
	reloaded(t, m, text)
	return m
}

func reloaded(t *testing.T, m *Machine, text string) {
	t.Helper()
	c, e, at := config.Parse(text)
	if e != api.OK {
		t.Fatalf("%q: error %d at %d", text, e, at)
	}
	says(t, m, post("/reload", text), 200, fmt.Sprintf(`{"groups":%d,"routes":%d}`, len(c.Groups), len(c.Routes)))
}

// logged answers the records of the log, without touching the disk.
func logged(t *testing.T, m *Machine) []string {
	t.Helper()
	_, l, e := wal.Open(m.disk.Copy(), "data", api.MaxFile)
	if e != api.OK {
		t.Fatal("the log", e)
	}
	var out []string
	for _, b := range l {
		out = append(out, string(b))
	}
	return out
}

// kinds answers the bytes with which the log's records begin.
func kinds(t *testing.T, m *Machine) string {
	t.Helper()
	var out []byte
	for _, r := range logged(t, m) {
		out = append(out, '0'+r[0])
	}
	return string(out)
}

// all keeps all of a file.
func all(name string) api.Keep { return api.Keep{Name: name, N: math.MaxInt} }

// shown tells all that a machine answers of itself, and its disk to the last byte.
func shown(m *Machine) string {
	var b strings.Builder
	c, at := m.Config()
	text, e, _ := config.Print(c)
	requests, notices := m.Counts()
	fmt.Fprintln(&b, m.Now(), text, e, at, m.Active(), m.Alerts(), m.Silences(), m.Marks(), m.Files(), requests, notices)
	for _, s := range m.Series() {
		fmt.Fprint(&b, s.Labels)
		for _, x := range s.Samples {
			fmt.Fprintf(&b, " %d:%x", x.T, math.Float64bits(x.V))
		}
		fmt.Fprintln(&b)
	}
	if m != nil {
		for _, name := range m.disk.List() {
			bytes, _ := m.disk.Read(name)
			_, synced, _ := m.disk.Size(name)
			fmt.Fprintf(&b, "%s %d %x\n", name, synced, bytes)
		}
	}
	return b.String()
}
