package mono

import (
	"fmt"
	"math"
	"slices"
	"strings"
	"sync"
	"testing"

	"tocsin/api"
	"tocsin/config"
	"tocsin/http"
)

const down = `receiver team
group g every 10s
alert "Down" for 20s labels {severity="critical"} expr up == 0
route receiver team by alertname wait 5s
`

func TestExamples(t *testing.T) {
	m := New()
	says(t, m, post("/api/write", `up{job="a"} 0`), 200, `{"accepted":1,"refused":[]}`)
	says(t, m, post("/reload", "receiver team\ngroup g every 1s\nalert \"Down\" expr up == 0\nroute receiver team wait 0s\n"), 200, `{"groups":1,"routes":1}`)
	out := ticks(t, m, 0, "team a/")
	want := `{"at":0,"receiver":"team","group":"0/{}","status":"firing","alerts":[{"status":"firing","labels":{"alertname":"Down","job":"a"}}]}`
	if out[0].Notice.Payload != want {
		t.Errorf("%s; want %s", out[0].Notice.Payload, want)
	}
	says(t, m, get("/nope"), 404, `{"error":5}`)
	ticks(t, m, 5)
	if out, e := m.Step(tick(4)); e != api.ErrArg || out != nil {
		t.Error(out, e)
	}
}

func TestP29_1_Default(t *testing.T) {
	c := Default()
	want := api.Config{Receivers: []string{"default"}, Routes: []api.Route{{Parent: -1, Receiver: "default", Wait: 30000, Interval: 300000, Repeat: 14400000}}, Resolve: 300000, Lookback: 300000}
	if !config.Same(c, want) {
		t.Error(c)
	}
	if e, at := config.Right(c); e != api.OK {
		t.Error(e, at)
	}
	c.Receivers[0], c.Routes[0].Receiver = "spoilt", "spoilt"
	if !config.Same(Default(), want) {
		t.Error("shared")
	}
	if c, at := New().Config(); !config.Same(c, want) || at != 0 {
		t.Error(c, at)
	}
}

func TestP29_1_New(t *testing.T) {
	m := New()
	if m.Now() != 0 || len(m.Series()) != 0 || len(m.Active()) != 0 || len(m.Alerts()) != 0 || len(m.Silences()) != 0 || len(m.Marks()) != 0 || len(m.Files()) != 0 {
		t.Error(shown(m))
	}
	if a, b := m.Counts(); a != 0 || b != 0 {
		t.Error(a, b)
	}
	says(t, m, get("/status"), 200, `{"now":0,"series":0,"samples":0,"blocks":0,"silences":0,"requests":0,"notices":0}`)
}

// Of a nil machine, and of one that New has not made.
func TestP29_1_Nil(t *testing.T) {
	for _, m := range []*Machine{nil, {}} {
		for _, e := range []api.Entry{{}, tick(0), get("/status"), take("a"), crash(), {Kind: -1}, refuse(""), crash(api.Keep{N: -1})} {
			if out, fault := m.Step(e); out != nil || fault != api.ErrNil {
				t.Error("Step", out, fault)
			}
		}
		for _, l := range [][]api.Entry{nil, {tick(0)}, make([]api.Entry, 2001)} {
			if out, fault, at := m.Run(l); out != nil || fault != api.ErrNil || at != 0 {
				t.Error("Run", out, fault, at)
			}
		}
		if c, at := m.Config(); !config.Same(c, api.Config{}) || at != 0 {
			t.Error("Config", c, at)
		}
		if m.Now() != 0 || m.Series() != nil || m.Active() != nil || m.Alerts() != nil || m.Silences() != nil || m.Marks() != nil || m.Files() != nil {
			t.Error("not none")
		}
		if a, b := m.Counts(); a != 0 || b != 0 {
			t.Error("Counts", a, b)
		}
	}
}

func TestP29_1_Kinds(t *testing.T) {
	m := loaded(t, down)
	was := shown(m)
	for _, kind := range []int{0, 5, 6, -1, math.MaxInt, math.MinInt} {
		if out, e := m.Step(api.Entry{Kind: kind, N: 7, Text: "team"}); out != nil || e != api.ErrOp {
			t.Error(kind, out, e)
		}
	}
	if shown(m) != was {
		t.Error("changed")
	}
}

func TestP29_1_Tick(t *testing.T) {
	b := newBoth(t)
	b.step(tick(5))
	for _, n := range []int64{4, 0, -1, math.MinInt64, maxTime + 1, math.MaxInt64} {
		was := shown(b.m)
		if b.step(tick(n)); shown(b.m) != was {
			t.Error("changed", n)
		}
		if _, e := b.m.Step(tick(n)); e != api.ErrArg {
			t.Error(n, e)
		}
	}
	for _, n := range []int64{5, 5, 6, maxTime - 1, maxTime, maxTime} {
		if b.step(tick(n)); b.m.Now() != n {
			t.Error(n, b.m.Now())
		}
	}
	if _, e := b.m.Step(tick(maxTime + 1)); e != api.ErrArg {
		t.Error(e)
	}
}

// At the end of all times alerts go on as ever.
func TestP29_1_LastTime(t *testing.T) {
	b := newBoth(t)
	b.step(tick(maxTime - 1))
	b.step(post("/reload", "receiver team\ngroup g every 1ms\nalert \"A\" expr vector(1)\nrecord x expr time()\nroute receiver team wait 0s interval 1ms repeat 1ms\n"))
	b.step(refuse("team"))
	b.step(tick(maxTime - 1))
	b.step(tick(maxTime))
	b.step(take("team"))
	b.step(tick(maxTime))
	b.step(quiet(`{a="1"}`, maxTime, maxTime+maxSpan))
	b.step(quiet(`{a="1"}`, maxTime, maxTime+maxSpan+1))
	b.step(crash())
	b.step(tick(maxTime))
	b.step(post("/reload", "receiver team\ngroup g every 1w\nalert \"A\" expr vector(1)\nroute receiver team wait 0s\n"))
	if out := b.step(tick(maxTime)); len(out) != 1 {
		t.Error(out)
	}
}

func TestP29_1_Answer(t *testing.T) {
	m := New()
	was := shown(m)
	for _, e := range []api.Entry{{Text: ""}, {Text: "", N: 7}, {Text: strings.Repeat("a", 65)}, {Text: strings.Repeat("a", 65), N: -1}} {
		e.Kind = api.EAnswer
		if out, fault := m.Step(e); out != nil || fault != api.ErrReceiver {
			t.Error(e, out, fault)
		}
	}
	for _, n := range []int64{-1, 2, math.MaxInt64, math.MinInt64} {
		if out, fault := m.Step(api.Entry{Kind: api.EAnswer, Text: "default", N: n}); out != nil || fault != api.ErrArg {
			t.Error(n, out, fault)
		}
	}
	if shown(m) != was || len(m.refusing) != 0 {
		t.Error("changed")
	}
	for _, name := range []string{"default", "nobody", "\xff", strings.Repeat("a", 64), " "} {
		for _, e := range []api.Entry{refuse(name), refuse(name), take(name), take(name)} {
			if out := did(t, m, e); out != nil {
				t.Error(out)
			}
		}
	}
	if shown(m) != was || len(m.refusing) != 0 {
		t.Error("something stays")
	}
}

func TestP29_1_Run(t *testing.T) {
	script := []api.Entry{post("/reload", down), post("/api/write", "up 0\n"), tick(0), tick(20000), get("/status"), tick(25000)}
	one, other := New(), New()
	var want []api.Out
	for _, e := range script {
		want = append(want, did(t, one, e)...)
	}
	out, e, at := other.Run(script)
	if !slices.EqualFunc(out, want, sameOut) || e != api.OK || at != 0 || shown(one) != shown(other) || len(out) != 4 {
		t.Error(out, e, at)
	}
	// An error in the midst: what was put out ahead is told, and nothing behind it is done.
	broken := slices.Insert(slices.Clone(script), 4, tick(19999))
	third := New()
	out, e, at = third.Run(broken)
	if !slices.EqualFunc(out, want[:2], sameOut) || e != api.ErrArg || at != 4 || third.Now() != 20000 {
		t.Error(out, e, at)
	}
	if out, e, at := third.Run([]api.Entry{{Kind: 9}, get("/status")}); len(out) != 0 || e != api.ErrOp || at != 0 {
		t.Error(out, e, at)
	}
	for _, l := range [][]api.Entry{nil, {}} {
		if out, e, at := third.Run(l); len(out) != 0 || e != api.OK || at != 0 {
			t.Error(out, e, at)
		}
	}
}

func TestP29_1_RunLong(t *testing.T) {
	l := make([]api.Entry, 2001)
	for i := range l {
		l[i] = get("/status")
	}
	m := New()
	was := shown(m)
	if out, e, at := m.Run(l); out != nil || e != api.ErrSize || at != 0 || shown(m) != was {
		t.Error(len(out), e, at)
	}
	if out, e, at := m.Run(l[:2000]); len(out) != 2000 || e != api.OK || at != 0 {
		t.Error(len(out), e, at)
	}
	// The last one at fault.
	l[1999] = tick(-1)
	if out, e, at := m.Run(l[:2000]); len(out) != 1999 || e != api.ErrArg || at != 1999 {
		t.Error(len(out), e, at)
	}
}

func TestP29_2(t *testing.T) {
	m := loaded(t, down)
	ticks(t, m, 5)
	reloaded(t, m, "receiver team\ngroup g every 1s\nalert \"Down\" keep 1h expr up == 0\nroute receiver team by job wait 0s interval 1h\n")
	wrote(t, m, "up{job=\"b\"} 0\nup{job=\"a\"} 0 5\nz 1 900\n")
	says(t, m, quiet(`{b="2",a!="1"}`, 0, 100), 200, `{"id":1}`)
	says(t, m, quiet(`{job="b"}`, 7, 9), 200, `{"id":2}`)
	ticks(t, m, 6, "team a/", "team b/")
	for what, pair := range map[string][2]string{
		"Now":      {fmt.Sprint(m.Now()), "6"},
		"Series":   {bitsOf(m.Series()), "[{__name__ up} {job a}] 5:0\n[{__name__ up} {job b}] 5:0\n[{__name__ z}] 900:3ff0000000000000\n"},
		"Active":   {fmt.Sprintf("%v", m.Active()), "[{[{alertname Down} {job a}] 2 6 6 -1 0} {[{alertname Down} {job b}] 2 6 6 -1 0}]"},
		"Alerts":   {fmt.Sprint(m.Alerts()), "[{[{alertname Down} {job a}] 6 300006} {[{alertname Down} {job b}] 6 300006}]"},
		"Silences": {fmt.Sprint(m.Silences()), "[{1 [{1 b 2} {2 a 1}] 5 100} {2 [{1 job b}] 7 9}]"},
		"Marks":    {fmt.Sprint(m.Marks()), `[{team 0/{job="a"} 6 [[{alertname Down} {job a}]] []} {team 0/{job="b"} 6 [[{alertname Down} {job b}]] []}]`},
		"Files":    {fmt.Sprint(m.Files()), "[data.00000001]"},
	} {
		if pair[0] != pair[1] {
			t.Errorf("%s: %s; want %s", what, pair[0], pair[1])
		}
	}
	if c, at := m.Config(); at != 5 || len(c.Groups) != 1 || c.Groups[0].Every != 1000 || c.Routes[0].Interval != 3600000 {
		t.Error(c, at)
	}
	if a, b := m.Counts(); a != 5 || b != 2 {
		t.Error(a, b)
	}
}

// What is answered is new memory: nothing that is written into it, or behind it, is seen by any later answer.
func TestP29_2_NewMemory(t *testing.T) {
	m := loaded(t, `receiver team
group g every 1s
alert "Down" labels {severity="critical"} expr up == 0
route receiver team by job wait 0s interval 1s repeat 1s
route parent 0 receiver team match {job="a"} by job continue
inhibit source {a="1"} target {b="2"} equal c
`)
	wrote(t, m, "up{job=\"a\"} 0\n")
	says(t, m, quiet(`{b="2"}`, 0, 100), 200, `{"id":1}`)
	out := ticks(t, m, 0, "team a.critical/")
	was := shown(m)
	for range 2 {
		spoilSets(out[0].Notice.Firing)
		c, _ := m.Config()
		spoil(c.Groups[0].Rules[0].Labels)
		c.Groups[0].Rules[0].Name = "spoilt"
		c.Groups[0].Name = "spoilt"
		spoilText(c.Receivers, c.Routes[0].By, c.Routes[1].By, c.Inhibits[0].Equal)
		spoilMatchers(c.Routes[1].Matchers, c.Inhibits[0].Source, c.Inhibits[0].Target)
		c.Routes[0].Receiver = "spoilt"
		for _, s := range m.Series() {
			spoil(s.Labels)
			s.Samples[0].V = 7
			_ = append(s.Samples, api.Sample{T: 9})
		}
		for _, a := range m.Active() {
			spoil(a.Labels)
		}
		for _, a := range m.Alerts() {
			spoil(a.Labels)
		}
		for _, s := range m.Silences() {
			spoilMatchers(s.Matchers)
		}
		for _, x := range m.Marks() {
			spoilSets(x.Firing)
			spoilSets(x.Resolved)
		}
		spoilText(m.Files())
		if shown(m) != was {
			t.Fatal("shared")
		}
	}
	ticks(t, m, 1000, "team a.critical/")
}

func spoil(l []api.Label) {
	for i := range l {
		l[i] = api.Label{Name: "spoilt", Value: "x"}
	}
	_ = append(l, of("more", "x")...)
}

func spoilSets(l [][]api.Label) {
	for i := range l {
		spoil(l[i])
		l[i] = nil
	}
}

func spoilText(lists ...[]string) {
	for _, l := range lists {
		for i := range l {
			l[i] = "spoilt"
		}
	}
}

func spoilMatchers(lists ...[]api.Matcher) {
	for _, l := range lists {
		for i := range l {
			l[i] = api.Matcher{Name: "spoilt"}
		}
	}
}

// What is handed in is not kept: the entries' Keeps are all that can be written into.
func TestP29_2_HandedIn(t *testing.T) {
	m, other := loaded(t, down), loaded(t, down)
	ticks(t, m, 0)
	ticks(t, other, 0)
	keeps := []api.Keep{all("data.00000001")}
	did(t, m, crash(keeps...))
	keeps[0] = api.Keep{Name: "spoilt", N: -1}
	did(t, other, crash(all("data.00000001")))
	if shown(m) != shown(other) {
		t.Error("kept")
	}
	ticks(t, m, 1)
}

// Others may ask for Counts at any time: each is told numbers that never fall.
func TestP29_2_Counts(t *testing.T) {
	m := loaded(t, "receiver team\ngroup g every 1ms\nalert \"A\" expr vector(1)\nroute receiver team wait 0s interval 1ms repeat 1ms\n")
	stop := make(chan struct{})
	var asking sync.WaitGroup
	for range 4 {
		asking.Go(func() {
			requests, notices := m.Counts()
			for {
				select {
				case <-stop:
					return
				default:
				}
				a, b := m.Counts()
				if a < requests || b < notices {
					t.Error("fewer than before", a, b)
				}
				requests, notices = a, b
			}
		})
	}
	for n := range int64(100) {
		ticks(t, m, n, "team /")
		did(t, m, get("/status"))
		did(t, m, get("/nope"))
		did(t, m, api.Entry{Kind: api.ERequest})
		if n%10 == 0 {
			did(t, m, crash())
		}
	}
	close(stop)
	asking.Wait()
	if a, b := m.Counts(); a != 301 || b != 100 {
		t.Error(a, b)
	}
}

// P29.9: two machines know nothing of each other.
func TestP29_9(t *testing.T) {
	r := newSource(99)
	alone := New()
	var script []api.Entry
	for range 120 {
		e := r.entry(alone)
		script = append(script, e)
		alone.Step(e)
	}
	one, other := New(), New()
	for _, e := range script {
		one.Step(e)
		other.Step(r.entry(other))
	}
	if shown(one) != shown(alone) {
		t.Error("another one was seen")
	}
}

// P29.9, P3: a step that is refused changes nothing, and neither does a request that is, but that it was answered.
func TestP29_9_Refused(t *testing.T) {
	refusedOnes := []api.Entry{
		tick(-1), tick(24999), tick(maxTime + 1), {Kind: 0}, {Kind: 7}, refuse(""), take(strings.Repeat("x", 65)), {Kind: api.EAnswer, Text: "team", N: 2},
		crash(api.Keep{Name: "data.00000001", N: -1}), crash(all("data.00000001"), all("data.00000001")), crash(api.Keep{Name: "x", N: 1}, api.Keep{Name: "x", N: 2}), crash(api.Keep{Name: " ", N: -7}),
	}
	refusedRequests := []string{
		"", "x", "GET /status HTTP/1.1\r\n\r\nx", strings.Repeat("x", 100000),
		request("POST", "/api/write", "up{job=\"a\"} 1 1\nup{\n"), request("POST", "/api/write", "up{job=\"a\"} 7 0\n"), request("GET", "/api/write", ""), request("DELETE", "/reload", ""),
		request("POST", "/api/silences", "{"), request("POST", "/api/silences", `{"matchers":"{a=~\".*\"}","from":0,"to":90000}`), request("DELETE", "/api/silences?id=9", ""), request("DELETE", "/api/silences?id=-1", ""), request("DELETE", "/api/silences", ""),
		request("POST", "/reload", "receiver team\n"), request("POST", "/reload", "group g every 1s\nalert \"A\" expr up +\n"),
		request("GET", "/api/query?query=up%2B", ""), request("GET", "/api/query", ""), request("GET", "/nope", ""),
	}
	m := loaded(t, down)
	wrote(t, m, "up{job=\"a\"} 0\n")
	for n := int64(0); n <= 25000; n += 10000 {
		ticks(t, m, n)
	}
	ticks(t, m, 25000, "team a.critical/")
	was := shown(m)
	for _, e := range refusedOnes {
		if out, fault := m.Step(e); out != nil || fault == api.OK {
			t.Errorf("%v: %v, %d", e, out, fault)
		}
		if shown(m) != was {
			t.Fatalf("%v: changed", e)
		}
	}
	requests, _ := m.Counts()
	for i, text := range refusedRequests {
		out := did(t, m, api.Entry{Kind: api.ERequest, Text: text})
		if code, _, _, _ := http.Read([]byte(out[0].Answer)); code == 200 {
			t.Errorf("%.100q: %d", text, code)
		}
		if n, _ := m.Counts(); n != requests+int64(i)+1 {
			t.Error("Counts", n)
		}
		m.requests.Store(requests)
		if shown(m) != was {
			t.Fatalf("%.100q: changed", text)
		}
		m.requests.Store(requests + int64(i) + 1)
	}
}
