package mono

import (
	"fmt"
	"math"
	"slices"
	"strconv"
	"strings"
	"testing"

	"tocsin/api"
	"tocsin/http"
	"tocsin/labels"
	"tocsin/route"
)

// up tells that job a is up, or is not.
func up(t *testing.T, m *Machine, value string) {
	t.Helper()
	did(t, m, post("/api/write", "up{job=\"a\"} "+value))
}

// downAt answers a machine on which job a is down from 0 on, at a tick that is a multiple of ten seconds, or 25000.
func downAt(t *testing.T, to int64) *Machine {
	t.Helper()
	m := loaded(t, down)
	goOn(t, m, 0, to)
	return m
}

// goOn ticks each ten seconds from a time up to another one, job a being down, and tells at which ticks something was put out.
func goOn(t *testing.T, m *Machine, from, to int64) []int64 {
	t.Helper()
	var told []int64
	for at := from; at <= to; at += 10000 {
		up(t, m, "0 "+strconv.FormatInt(at, 10))
		if len(did(t, m, tick(at))) > 0 {
			told = append(told, at)
		}
	}
	return told
}

func TestPage_Example1_2(t *testing.T) {
	m := New()
	says(t, m, post("/api/write", `up{job="a"} 1`), 200, `{"accepted":1,"refused":[]}`)
	says(t, m, post("/api/write", `up{job="a"} 2`), 409, `{"accepted":0,"refused":[[0,6]]}`)
	says(t, m, get("/api/query?query=up"), 200, `{"type":"vector","text":"up{job=\"a\"} 1"}`)
	says(t, m, get("/api/query?query=up%2B"), 422, `{"error":140,"at":3}`)
	out := did(t, m, get("/api/query?query=1"))
	if want := "HTTP/1.1 200 OK\r\nContent-Type: application/json\r\nContent-Length: 28\r\n\r\n{\"type\":\"scalar\",\"text\":\"1\"}"; out[0].Answer != want {
		t.Errorf("%q; want %q", out[0].Answer, want)
	}
}

func TestPage_Example3_4(t *testing.T) {
	m := New()
	says(t, m, post("/reload", down), 200, `{"groups":1,"routes":1}`)
	up(t, m, "0 0")
	for _, at := range []int64{0, 10000} {
		ticks(t, m, at)
		says(t, m, get("/api/alerts"), 200, `{"alerts":[{"labels":"{alertname=\"Down\",job=\"a\",severity=\"critical\"}","state":"pending","since":0}]}`)
	}
	ticks(t, m, 20000)
	says(t, m, get("/api/alerts"), 200, `{"alerts":[{"labels":"{alertname=\"Down\",job=\"a\",severity=\"critical\"}","state":"firing","since":0}]}`)
	ticks(t, m, 24999)
	out := ticks(t, m, 25000, "team a.critical/")
	n := out[0].Notice
	if n.Receiver != "team" || n.Key != `0/{alertname="Down"}` || !strings.Contains(n.Payload, `"status":"firing","alerts":[{`) {
		t.Error(n)
	}
}

func TestPage_Example5(t *testing.T) {
	m := downAt(t, 20000)
	ticks(t, m, 25000, "team a.critical/")
	// Nothing until the repeat interval has gone by, and then with the next flush; flushes lie 5 minutes apart, at ticks.
	told := goOn(t, m, 30000, 14800000)
	if len(told) != 1 || told[0] < 25000+14400000 || told[0] > 25000+14400000+310000 {
		t.Error(told)
	}
	up(t, m, "1 14805000")
	did(t, m, tick(14810000))
	says(t, m, get("/api/alerts"), 200, `{"alerts":[]}`)
	var out []api.Out
	for at := int64(14820000); at < 15200000; at += 10000 {
		out = append(out, did(t, m, tick(at))...)
	}
	if len(out) != 1 || !strings.Contains(out[0].Notice.Payload, `"status":"resolved","alerts":[{"status":"resolved",`) {
		t.Error(out)
	}
}

func TestPage_Example6(t *testing.T) {
	for takes := range 6 {
		m := downAt(t, 20000)
		did(t, m, refuse("team"))
		tries := []int64{25000, 26000, 28000, 32000, 40000}
		var told []int64
		for at := int64(20500); at < 60000; at += 500 {
			if takes < 5 && at == tries[takes] {
				did(t, m, take("team"))
			}
			up(t, m, "0")
			if len(did(t, m, tick(at))) > 0 {
				told = append(told, at)
			}
		}
		var want []int64
		if takes < 5 {
			want = tries[takes : takes+1]
		}
		if !slices.Equal(told, want) {
			t.Error(takes, told, want)
		}
	}
}

func TestPage_Example7(t *testing.T) {
	m := downAt(t, 20000)
	says(t, m, post("/api/silences", `{"matchers":"{severity=\"critical\"}","from":0,"to":100000}`), 200, `{"id":1}`)
	ticks(t, m, 25000)
	says(t, m, del("/api/silences?id=1"), 200, `{"id":1}`)
	says(t, m, del("/api/silences?id=1"), 409, `{"error":220}`)
	if told := goOn(t, m, 30000, 330000); !slices.Equal(told, []int64{330000}) {
		t.Error(told) // with the next flush
	}
}

func TestPage_Example8(t *testing.T) {
	m := loaded(t, `receiver team
group g every 1s
alert "Down" labels {severity="critical"} expr up == 0
alert "Low" labels {severity="warning"} expr up < 2
route receiver team by * wait 0s interval 1s
inhibit source {severity="critical"} target {severity="warning"} equal job
`)
	wrote(t, m, "up{job=\"a\"} 0\nup{job=\"b\"} 1\n")
	for at := int64(0); at < 10000; at += 1000 {
		for _, x := range did(t, m, tick(at)) {
			for _, l := range x.Notice.Firing {
				if labels.Get(l, "severity") == "warning" && labels.Get(l, "job") == "a" {
					t.Error(at, x.Notice)
				}
			}
		}
	}
	if len(m.Marks()) != 2 {
		t.Error(m.Marks())
	}
	// When the critical one is over, the warning one is told.
	wrote(t, m, "up{job=\"a\"} 1 10000\n")
	ticks(t, m, 10000, "team /a.critical", "team a.warning/")
}

func TestPage_Example9(t *testing.T) {
	m := downAt(t, 20000)
	says(t, m, quiet(`{x="1"}`, 0, 90000), 200, `{"id":1}`)
	ticks(t, m, 25000, "team a.critical/")
	series, marks, silences := bitsOf(m.Series()), fmt.Sprint(m.Marks()), fmt.Sprint(m.Silences())
	did(t, m, crash())
	c, at := m.Config()
	if bitsOf(m.Series()) != series || fmt.Sprint(m.Marks()) != marks || fmt.Sprint(m.Silences()) != silences || len(c.Groups) != 1 || at != 0 {
		t.Error(shown(m))
	}
	if a := m.Active(); len(a) != 1 || a[0].State != api.SFiring || a[0].Fired != 20000 || len(m.Alerts()) != 0 {
		t.Error(a, m.Alerts())
	}
	told := goOn(t, m, 30000, 14800000)
	if len(told) != 1 || told[0] < 25000+14400000 {
		t.Error(told)
	}
}

func TestPage_Example10(t *testing.T) {
	m := New()
	for i := range 41 {
		wrote(t, m, fmt.Sprintf("up{job=\"a\"} %d %d\n", i, i))
	}
	ask := get("/api/query?time=40&query=" + http.Escape("up{job=\"a\"}[1m]"))
	before := did(t, m, ask)[0].Answer
	ticks(t, m, 0)
	if !slices.Equal(m.Files(), []string{"block.1", "data.check"}) || did(t, m, ask)[0].Answer != before {
		t.Error(m.Files())
	}
}

// P1: every call ends, and none panics, whatever it is given.
func TestPage_P1(t *testing.T) {
	r := newSource(1)
	numbers := []int64{math.MinInt64, -1, 0, 1, 2, maxTime, maxTime + 1, math.MaxInt64}
	for _, m := range []*Machine{nil, {}, New()} {
		for range 3000 {
			text := make([]byte, r.Intn(40))
			r.Read(text)
			e := api.Entry{Kind: r.Intn(7) - 1, N: numbers[r.Intn(len(numbers))], Text: r.pick("", "default", string(text), request(r.pick("GET", "POST", "DELETE"), r.pick("/api/write", "/api/query?query=up", "/api/silences?id=1", "/api/silences", "/reload", "/status"), string(text)))}
			for range r.Intn(3) {
				e.Keeps = append(e.Keeps, api.Keep{Name: r.pick("", "data.00000001", string(text)), N: int(numbers[r.Intn(len(numbers))])})
			}
			if e.Kind == api.ETick && e.N > 2 {
				e.N = r.Int63n(9) + m.Now()
			}
			if out, fault := m.Step(e); fault != api.OK && out != nil {
				t.Fatal(e, out, fault)
			}
			m.Run([]api.Entry{e, e})
			m.Config()
			shownLists := []int{len(m.Series()), len(m.Active()), len(m.Alerts()), len(m.Silences()), len(m.Marks()), len(m.Files())}
			if m.isNone() && !slices.Equal(shownLists, make([]int, 6)) {
				t.Fatal(shownLists)
			}
		}
	}
}

// P2: what is put out hangs on the script alone.
func TestPage_P2(t *testing.T) {
	r := newSource(2)
	first := New()
	var script []api.Entry
	var want []api.Out
	for len(script) < 300 {
		e := r.entry(first)
		out, fault := first.Step(e)
		if fault == api.OK {
			script = append(script, e)
			want = append(want, out...)
		}
	}
	for range 4 {
		m := New()
		out, e, _ := m.Run(script)
		if e != api.OK || !slices.EqualFunc(out, want, sameOut) || shown(m) != shown(first) {
			t.Fatal("another answer to the same script", e)
		}
	}
}

// P5, P29.5: with evaluations at their times an alert fires just if it was told at each from For ago on, and there is one then; without, chapter 19's words hold, by which the last one not above that time counts.
func TestP5_P29_5(t *testing.T) {
	for seed := range int64(40) {
		r := newSource(500 + seed)
		wait := int64(r.Intn(6)) * 1000
		m := loaded(t, fmt.Sprintf("lookback 1ms\nreceiver team\ngroup g every 1s\nalert \"A\" for %dms expr up == 0\nroute receiver team\n", wait))
		var at []int64
		var told []bool
		now := int64(0)
		for range 80 {
			value := r.pick("0", "0", "0", "1")
			did(t, m, post("/api/write", fmt.Sprintf("up %s %d", value, now)))
			did(t, m, tick(now))
			at, told = append(at, now), append(told, value == "0")
			from := -1
			for i, x := range at {
				if x <= now-wait {
					from = i
				}
			}
			want := from >= 0 && !slices.Contains(told[max(from, 0):], false)
			a := m.Active()
			if got := len(a) == 1 && a[0].State == api.SFiring; got != want {
				t.Fatalf("seed %d, at %d, for %d: %v; want %v: %v %v", seed, now, wait, a, want, at, told)
			}
			now += []int64{1000, 1000, 1000, 2000, 3000}[r.Intn(1+int(seed%2)*4)]
		}
	}
}

// held: is an alert silent now, or held back by one that fires?
func held(m *Machine, l []api.Label) bool {
	ids, _ := m.silences.Silent(m.Now(), l)
	for _, a := range m.alerts.Firing(m.Now()) {
		if by, _, _ := m.mute.By(l, a.Labels); by >= 0 {
			return true
		}
	}
	return len(ids) > 0
}

// routeOf answers the number of the route of a group's key.
func routeOf(key string) int {
	number, _, _ := strings.Cut(key, "/")
	n, _ := strconv.Atoi(number)
	return n
}

// lively answers an entry of a script in which alerts come and go.
func lively(r source, m *Machine, step int64) api.Entry {
	switch n := r.Intn(60); {
	case n < 52:
		return tick(m.Now() + step)
	case n < 57:
		return post("/api/write", fmt.Sprintf("up{job=%q%s} %s\n", r.pick("a", "b"), r.pick("", `,n="1"`), r.pick("0", "0", "1")))
	case n < 58:
		return quiet(r.matchers(), m.Now(), m.Now()+int64(r.Intn(20000))+1)
	}
	return del(fmt.Sprintf("/api/silences?id=%d", r.Intn(5)))
}

const livelyConfig = `receiver team
receiver pager
group g every 1s
alert "Down" labels {severity="critical"} expr up == 0
alert "Low" for 3s keep 2s labels {severity="warning"} expr up < 1
route receiver team by job wait 2s interval 3s repeat 20s
route parent 0 receiver pager match {job="b"} by alertname wait 1s continue
route parent 0 receiver team match {severity="warning"} by *
inhibit source {severity="critical"} target {severity="warning"} equal job, n
`

// P6, P29.8: what fires, and is neither silent nor held back, for as long as the group's wait and interval, is what its receiver was told last.
func TestP6_P29_8(t *testing.T) {
	checked := 0
	for seed := range int64(12) {
		r := newSource(600 + seed)
		m := loaded(t, livelyConfig)
		since := map[string]int64{}
		tree, _, _ := route.New(m.config.Routes)
		for range 300 {
			e := lively(r, m, 500)
			did(t, m, e)
			if e.Kind != api.ETick {
				continue
			}
			free := map[string]int64{}
			for _, a := range m.alerts.Firing(m.Now()) {
				if held(m, a.Labels) {
					continue
				}
				numbers, _ := tree.Match(a.Labels)
				for _, i := range numbers {
					key, _ := tree.Key(i, a.Labels)
					at := fmt.Sprint(key, a.Labels)
					free[at] = m.Now()
					if was, is := since[at]; is {
						free[at] = was
					}
					if m.Now()-free[at] < m.config.Routes[i].Wait+m.config.Routes[i].Interval {
						continue
					}
					checked++
					mark, is := m.marks.Find(m.config.Routes[i].Receiver, key)
					if !is || !slices.ContainsFunc(mark.Firing, func(l []api.Label) bool { return slices.Equal(l, a.Labels) }) {
						t.Fatalf("seed %d, at %d: %s is not told: %v", seed, m.Now(), at, mark)
					}
				}
			}
			since = free
		}
	}
	if checked < 1000 {
		t.Error("hardly anything was checked", checked)
	}
}

// P6: told by a receiver that takes again within the retries.
func TestP6_Retries(t *testing.T) {
	for refused := range 5 {
		m := loaded(t, "receiver team\ngroup g every 1s\nalert \"A\" expr vector(1)\nroute receiver team wait 2s\n")
		did(t, m, refuse("team"))
		tries := 0
		for at := int64(0); at <= 2000+15000; at += 500 {
			if at == 2000+[]int64{0, 1000, 3000, 7000, 15000}[refused] {
				did(t, m, take("team"))
			}
			tries += len(did(t, m, tick(at)))
		}
		if tries != 1 {
			t.Error(refused, tries)
		}
	}
}

// P7, P29.6: the same is not told again within the repeat interval, whoever refuses meanwhile.
func TestP7_P29_6(t *testing.T) {
	repeated := 0
	for seed := range int64(20) {
		r := newSource(700 + seed)
		m := loaded(t, livelyConfig)
		last := map[string]api.Notice{}
		for range 400 {
			e := lively(r, m, 1000)
			if r.Intn(15) == 0 {
				e = api.Entry{Kind: api.EAnswer, Text: r.pick("team", "pager"), N: int64(r.Intn(2))}
			}
			for _, x := range did(t, m, e) {
				n := x.Notice
				if x.Answer != "" {
					continue
				}
				was, is := last[n.Receiver+n.Key]
				last[n.Receiver+n.Key] = n
				if !is || fmt.Sprint(was.Firing, was.Resolved) != fmt.Sprint(n.Firing, n.Resolved) {
					continue
				}
				repeated++
				if n.At-was.At < m.config.Routes[routeOf(n.Key)].Repeat {
					t.Fatalf("seed %d: %v, %v", seed, was, n)
				}
			}
		}
	}
	if repeated < 10 {
		t.Error("hardly anything was told again", repeated)
	}
}

// P8, P29.7: nothing is told to fire that is silent or held back at its flush, or that does not fire.
func TestP8_P29_7(t *testing.T) {
	told := 0
	for seed := range int64(12) {
		r := newSource(800 + seed)
		m := loaded(t, livelyConfig)
		for range 400 {
			for _, x := range did(t, m, lively(r, m, 1000)) {
				for _, l := range x.Notice.Firing {
					told++
					a, is := m.alerts.Get(l)
					if held(m, l) || !is || a.Start > m.Now() || a.End <= m.Now() {
						t.Fatalf("seed %d, at %d: %v", seed, m.Now(), l)
					}
				}
			}
		}
	}
	if told < 100 {
		t.Error("hardly anything was told", told)
	}
}

// P9: what is read of the disk is as it was.
func TestPage_P9(t *testing.T) {
	for seed := range int64(30) {
		r := newSource(900 + seed)
		m := New()
		for range 100 {
			m.Step(r.entry(m))
		}
		c, at := m.Config()
		want := bitsOf(m.Series()) + fmt.Sprint(c, at, m.Active(), m.Silences(), m.Marks(), m.Files(), m.Now())
		var keeps []api.Keep
		for _, name := range m.Files() {
			keeps = append(keeps, all(name))
		}
		did(t, m, crash(keeps...))
		c, at = m.Config()
		if got := bitsOf(m.Series()) + fmt.Sprint(c, at, m.Active(), m.Silences(), m.Marks(), m.Files(), m.Now()); got != want {
			t.Fatalf("seed %d: %s; want %s", seed, got, want)
		}
	}
}

// P10: what is read is what was accepted, wherever it lies; of one time what came last.
func TestPage_P10(t *testing.T) {
	for seed := range int64(10) {
		r := newSource(1000 + seed)
		m := New()
		accepted := map[string]string{}
		for step := range 400 {
			n, at, v := r.Intn(3), r.Intn(300)+step, r.Intn(9)
			out := did(t, m, post("/api/write", fmt.Sprintf("up{n=\"%d\"} %d %d", n, v, at)))
			if code, _, _, _ := http.Read([]byte(out[0].Answer)); code == 200 {
				accepted[fmt.Sprintf("%d %d", n, at)] = strconv.Itoa(v)
			}
			did(t, m, tick(m.Now()))
			if r.Intn(40) == 0 {
				did(t, m, crash())
			}
		}
		got := map[string]string{}
		for _, s := range m.Series() {
			for _, x := range s.Samples {
				got[fmt.Sprintf("%s %d", s.Labels[1].Value, x.T)] = strconv.Itoa(int(x.V))
			}
		}
		if fmt.Sprint(got) != fmt.Sprint(accepted) || m.store.Blocks() == 0 {
			t.Fatalf("seed %d: %v; want %v", seed, got, accepted)
		}
		for key, v := range accepted {
			n, at, _ := strings.Cut(key, " ")
			says(t, m, get("/api/query?time="+at+"&query="+http.Escape(`up{n="`+n+`"}`)), 200, fmt.Sprintf(`{"type":"vector","text":"up{n=\"%s\"} %s"}`, n, v))
		}
	}
}
