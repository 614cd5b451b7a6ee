package mono

import (
	"fmt"
	"slices"
	"strings"
	"testing"

	"tocsin/api"
	"tocsin/notify"
)

// times answers the times of the samples of a series.
func times(m *Machine, name string) []int64 {
	var out []int64
	for _, s := range m.Series() {
		if s.Labels[0].Value == name {
			for _, x := range s.Samples {
				out = append(out, x.T)
			}
		}
	}
	return out
}

// A group is evaluated for the first time at the first tick, and then at the first one that is not ahead of its next time.
func TestTick_Times(t *testing.T) {
	m := New()
	ticks(t, m, 5000)
	reloaded(t, m, "receiver team\ngroup g every 10s\nrecord x expr time()\nroute receiver team\n")
	var want []int64
	for _, step := range []struct {
		at        int64
		evaluated bool
	}{
		{7000, true},   // the first one
		{7000, false},  // asked again
		{14999, false}, // ahead of its next time
		{15000, true},  // at it
		{15000, false},
		{24999, false},
		{25001, true}, // behind it
		{34999, false},
		{35000, true}, // the times stay where they were
		{87654, true}, // several went by: one evaluation
		{94999, false},
		{95000, true},
	} {
		if ticks(t, m, step.at); step.evaluated {
			want = append(want, step.at)
		}
		if got := times(m, "x"); !slices.Equal(got, want) {
			t.Fatalf("at %d: evaluated at %v; want %v", step.at, got, want)
		}
	}
	// Loaded again, the same group goes on with its last evaluation, but its times begin with the new configuration.
	ticks(t, m, 96000)
	reloaded(t, m, "receiver other\ngroup g every 10s\nrecord x expr time()\nroute receiver other\n")
	for _, at := range []int64{96000, 96001, 105999, 106000} {
		ticks(t, m, at)
	}
	if got := times(m, "x"); !slices.Equal(got, append(want, 96000, 106000)) {
		t.Error(got)
	}
	// At the very tick of its last evaluation it is not evaluated again; another group is.
	reloaded(t, m, "receiver other\ngroup g every 10s\nrecord x expr time()\ngroup h every 10s\nrecord y expr time()\nroute receiver other\n")
	ticks(t, m, 106000)
	if got := times(m, "x"); !slices.Equal(got, append(want, 96000, 106000)) || !slices.Equal(times(m, "y"), []int64{106000}) {
		t.Error(got, times(m, "y"))
	}
	ticks(t, m, 116000)
	if got := times(m, "y"); !slices.Equal(got, []int64{106000, 116000}) {
		t.Error(got)
	}
}

// Several groups at one tick go in order, and rule by rule: each sees what those ahead have recorded.
func TestTick_Order(t *testing.T) {
	b := newBoth(t)
	b.step(post("/reload", `receiver team
group a every 1s
alert "Early" expr three
record two expr one + 1
record three expr two + 1
group b every 7s
record four expr three + 1
alert "Late" expr four == 4
group c every 3s
record five expr four + 1
route receiver team by * wait 0s
`))
	b.step(post("/api/write", "one 1\n"))
	ticks(t, b.m, 0, "team /")
	b.x.step(tick(0))
	b.same(tick(0))
	for _, name := range []string{"two", "three", "four", "five"} {
		if !slices.Equal(times(b.m, name), []int64{0}) {
			t.Error(name, times(b.m, name))
		}
	}
	if a := b.m.Alerts(); len(a) != 1 || a[0].Labels[0].Value != "Late" {
		t.Error(a)
	}
	// At 3000 b is not due: five is reckoned of the older four.
	b.step(post("/api/write", "one 11 3000\n"))
	b.step(tick(3000))
	says(t, b.m, query("three"), 200, `{"type":"vector","text":"three 13"}`)
	says(t, b.m, query("five"), 200, `{"type":"vector","text":"five 5"}`)
}

// What a tick lays into the log: recorded samples, marks, the alerts of the rules, in this order.
func TestTick_Records(t *testing.T) {
	m := loaded(t, "receiver team\ngroup g every 10s\nrecord x expr time()\nalert \"A\" expr x\nroute receiver team wait 0s\n")
	if got := kinds(t, m); got != "34" {
		t.Error(got)
	}
	ticks(t, m, 0, "team /")
	if got := kinds(t, m); got != "34154" {
		t.Error(got)
	}
	// Without an evaluation there is none of them.
	ticks(t, m, 1)
	if got := kinds(t, m); got != "34154" {
		t.Error(got)
	}
	ticks(t, m, 10000)
	if got := kinds(t, m); got != "3415414" {
		t.Error(got)
	}
	// A group without rules is evaluated as any other; without groups there are no records.
	reloaded(t, m, "receiver team\ngroup g every 10s\nroute receiver team\n")
	ticks(t, m, 10000)
	if got := kinds(t, m); got != "3415414344" {
		t.Error(got)
	}
	reloaded(t, m, "receiver team\nroute receiver team\n")
	ticks(t, m, 20000)
	if got := kinds(t, m); got != "341541434434" {
		t.Error(got)
	}
	if last := logged(t, m)[11]; last != "\x04" {
		t.Errorf("%q", last)
	}
}

// The log is synced, if a notification was taken: if not, it is not.
func TestTick_Sync(t *testing.T) {
	m := loaded(t, "receiver team\ngroup g every 10s\nalert \"A\" expr vector(1)\nroute receiver team wait 5s\n")
	isSynced := func() bool {
		have, synced, _ := m.disk.Size("data.00000001")
		return have == synced
	}
	if ticks(t, m, 0); isSynced() {
		t.Error("synced by an evaluation")
	}
	if ticks(t, m, 5000, "team /"); !isSynced() {
		t.Error("not synced by a notification")
	}
	if ticks(t, m, 10000); isSynced() {
		t.Error("synced by an evaluation")
	}
	if ticks(t, m, 10001); isSynced() {
		t.Error("synced by a tick")
	}
}

// A rule whose expression has an error is left as it is, whatever it was; the others of its group go on.
func TestTick_Error(t *testing.T) {
	b := newBoth(t)
	b.step(post("/reload", `receiver team
group g every 1s
alert "A" for 2s expr up + on() up
alert "B" expr up
record x expr {__name__=~"up|load"}
record y expr up
route receiver team by alertname wait 1h
`))
	b.step(post("/api/write", "up{n=\"1\"} 1\n"))
	b.step(tick(0))
	b.step(post("/api/write", "up{n=\"2\"} 1 1000\nload{n=\"1\"} 1 1000\n"))
	b.step(tick(1000)) // A: several match; x: two points come to one label set
	state := func(name string) string {
		var out []string
		for _, a := range b.m.Active() {
			if a.Labels[0].Value == name {
				out = append(out, fmt.Sprint(a.State, a.Since))
			}
		}
		return strings.Join(out, " ")
	}
	if state("A") != "1 0" || state("B") != "2 0 2 1000" {
		t.Error(b.m.Active())
	}
	if x, y := times(b.m, "x"), times(b.m, "y"); !slices.Equal(x, []int64{0}) || !slices.Equal(y, []int64{0, 1000, 1000}) {
		t.Error(x, y)
	}
	// As if the evaluation had not been: at the next one that can be it has waited since the first.
	b.step(post("/reload", `receiver team
group g every 1s
alert "A" for 2s expr up + on() up
alert "B" expr up
record x expr {__name__=~"up|load"}
record y expr up
route receiver team by alertname wait 1h
lookback 1s
`))
	b.step(post("/api/write", "up{n=\"1\"} 1 2000\n"))
	b.step(tick(2000))
	if state("A") != "2 0" {
		t.Error(b.m.Active())
	}
}

// A scalar is a point without labels.
func TestTick_Scalar(t *testing.T) {
	m := loaded(t, "receiver team\ngroup g every 1s\nalert \"A\" labels {a=\"1\"} expr 0\nrecord x labels {b=\"2\"} expr time() / 4\nrecord y expr 0/0\nroute receiver team by * wait 0s\n")
	out := ticks(t, m, 3000, "team 1/")
	if out[0].Notice.Key != `0/{a="1",alertname="A"}` {
		t.Error(out)
	}
	if got := bitsOf(m.Series()); got != "[{__name__ x} {b 2}] 3000:3fe8000000000000\n[{__name__ y}] 3000:7ff8000000000001\n" {
		t.Error(got)
	}
}

// A point that can not be put is left out; the others of its rule are put.
func TestTick_RefusedPoint(t *testing.T) {
	b := newBoth(t)
	b.step(post("/reload", "receiver team\ngroup g every 1s\nrecord x expr up\nroute receiver team\n"))
	b.step(post("/api/write", "up{n=\"1\"} 1\nup{n=\"2\"} 2\nup{n=\"3\"} 3\nx{n=\"2\"} 7 5\nx{n=\"1\"} 7 0\nx{n=\"3\"} 3 0\n"))
	before := len(logged(t, b.m))
	b.step(tick(0)) // 1: another value is there; 2: a later one is; 3: the same is
	if got := logged(t, b.m); len(got) != before+1 {
		t.Errorf("%q", got)
	}
	b.step(tick(1000))
	if got := times(b.m, "x"); !slices.Equal(got, []int64{0, 1000, 5, 1000, 0, 1000}) {
		t.Error(got)
	}
}

// An alert waits, fires, is kept, and is resolved.
func TestTick_Life(t *testing.T) {
	m := loaded(t, "receiver team\ngroup g every 10s\nalert \"Down\" for 20s keep 15s expr up == 0\nroute receiver team wait 0s interval 1s\n")
	for _, step := range []struct {
		at     int64
		up     string
		active string
		told   []string
	}{
		{0, "0", "[{[{alertname Down} {job a}] 1 0 -1 -1 0}]", nil},
		{10000, "0", "[{[{alertname Down} {job a}] 1 0 -1 -1 0}]", nil},
		{19999, "0", "[{[{alertname Down} {job a}] 1 0 -1 -1 0}]", nil},
		{20000, "0", "[{[{alertname Down} {job a}] 2 0 20000 -1 0}]", []string{"team a/"}},
		{30000, "1", "[{[{alertname Down} {job a}] 2 0 20000 30000 0}]", nil},
		{40000, "0", "[{[{alertname Down} {job a}] 2 0 20000 -1 0}]", nil},
		{50000, "1", "[{[{alertname Down} {job a}] 2 0 20000 50000 0}]", nil},
		{60000, "1", "[{[{alertname Down} {job a}] 2 0 20000 50000 0}]", nil},
		{70000, "1", "[]", []string{"team /a"}},
		{80000, "0", "[{[{alertname Down} {job a}] 1 80000 -1 -1 0}]", nil},
		{90000, "1", "[]", nil},
	} {
		wrote(t, m, fmt.Sprintf("up{job=\"a\"} %s %d\n", step.up, step.at))
		ticks(t, m, step.at, step.told...)
		if got := fmt.Sprint(m.Active()); got != step.active {
			t.Errorf("at %d: %s; want %s", step.at, got, step.active)
		}
	}
}

// The set of alerts: an alert that fires ends with the resolve timeout, unless it comes again; what is resolved stays 900 seconds.
func TestTick_Set(t *testing.T) {
	m := loaded(t, "resolve 1m\nreceiver team\ngroup g every 50s\nalert \"A\" expr up == 0\nroute receiver team\n")
	hold := func(at int64, want string) {
		t.Helper()
		ticks(t, m, at)
		if got := fmt.Sprint(m.Alerts()); got != want {
			t.Errorf("at %d: %s; want %s", at, got, want)
		}
	}
	m.Step(refuse("team"))
	wrote(t, m, "up 0\n")
	hold(1000, "[{[{alertname A}] 1000 61000}]")
	hold(50000, "[{[{alertname A}] 1000 110000}]")
	wrote(t, m, "up 1\n")
	hold(100000, "[{[{alertname A}] 1000 100000}]")
	hold(999999, "[{[{alertname A}] 1000 100000}]")
	hold(1000000, "[]")
	// Where it is evaluated too late to go on, it begins anew; evaluated at the tick at which it would be swept, it is not.
	wrote(t, m, "up 0\n")
	hold(1000000, "[]")
	hold(1050000, "[{[{alertname A}] 1050000 1110000}]")
	reloaded(t, m, "lookback 1d\nresolve 1m\nreceiver team\ngroup g every 50s\nalert \"A\" expr up == 0\nroute receiver team\n")
	hold(1050000, "[]")
	hold(1100000, "[{[{alertname A}] 1050000 1160000}]")
	hold(2060000, "[{[{alertname A}] 1050000 2120000}]")
	wrote(t, m, "up 1\n")
	hold(2100000, "[{[{alertname A}] 1050000 2100000}]")
}

// It is told in the order of a tick: evaluated, flushed, and tried, all at one.
func TestTick_OneTick(t *testing.T) {
	m := loaded(t, `receiver b
receiver a
group g every 1s
alert "A" expr up == 0
route receiver b by job wait 0s interval 1s repeat 1s
route parent 0 receiver a match {job="3"} by job continue
route parent 0 receiver b match {job="3"} by alertname
`)
	wrote(t, m, "up{job=\"3\"} 0\nup{job=\"1\"} 0\nup{job=\"2\"} 0\n")
	out := ticks(t, m, 0, "a 3/", "b 1/", "b 2/", "b 3/")
	for i, key := range []string{`1/{job="3"}`, `0/{job="1"}`, `0/{job="2"}`, `2/{alertname="A"}`} {
		if n := out[i].Notice; n.Key != key || n.At != 0 {
			t.Error(n)
		}
		payload, e := notify.Payload(out[i].Notice)
		if e != api.OK || payload != out[i].Notice.Payload {
			t.Error(payload, e)
		}
	}
	if got := len(m.Marks()); got != 4 {
		t.Error(got)
	}
	if a, b := m.Counts(); a != 2 || b != 4 {
		t.Error(a, b)
	}
}

// refusing answers a machine with an alert that fires from 0 on, told at 25000 at the earliest; its receiver takes nothing.
func refusing(t *testing.T) *Machine {
	t.Helper()
	m := loaded(t, "receiver team\nreceiver other\ngroup g every 10s\nalert \"A\" expr vector(1)\nroute receiver team wait 25s interval 5m repeat 1h\n")
	did(t, m, refuse("team"))
	ticks(t, m, 0)
	ticks(t, m, 25000)
	return m
}

// A receiver that refuses one try, and takes again.
func TestTick_RefusedOnce(t *testing.T) {
	m := refusing(t)
	did(t, m, take("team"))
	ticks(t, m, 25000)
	ticks(t, m, 25999)
	out := ticks(t, m, 26000, "team /")
	if n := out[0].Notice; !strings.HasPrefix(n.Payload, `{"at":26000,`) {
		t.Error(n)
	}
	if marks := m.Marks(); len(marks) != 1 || marks[0].At != 26000 {
		t.Error(marks)
	}
	ticks(t, m, 325000)
	ticks(t, m, 625000)
}

// One that refuses four tries, and takes the fifth; the tries lie where they should, if a tick is there, or as soon as one is.
func TestTick_RefusedFourTimes(t *testing.T) {
	m := refusing(t)
	for _, at := range []int64{25999, 26000, 27999, 28000, 31999, 32000, 39999} {
		ticks(t, m, at)
	}
	did(t, m, take("team"))
	ticks(t, m, 39999)
	ticks(t, m, 40000, "team /")
	late := refusing(t)
	for _, at := range []int64{30000, 31999, 36000, 39999, 40000, 47999} {
		ticks(t, late, at) // tried at 30000, 36000 and 40000: next at 48000
	}
	did(t, late, take("team"))
	ticks(t, late, 47999)
	ticks(t, late, 48000, "team /")
}

// One that refuses five tries: it is given up, and told with the next flush.
func TestTick_RefusedFiveTimes(t *testing.T) {
	m := refusing(t)
	for _, at := range []int64{26000, 28000, 32000, 40000} {
		ticks(t, m, at)
	}
	did(t, m, take("team"))
	for _, at := range []int64{40000, 56000, 324999} {
		ticks(t, m, at)
	}
	if len(m.Marks()) != 0 {
		t.Error(m.Marks())
	}
	ticks(t, m, 325000, "team /")
	if _, n := m.Counts(); n != 1 {
		t.Error(n)
	}
}

// One that refuses keeps no other one's back; what no route has is of no matter.
func TestTick_RefusedOther(t *testing.T) {
	m := loaded(t, "receiver team\nreceiver pager\ngroup g every 10s\nalert \"A\" expr up\nroute receiver team by job wait 0s\nroute parent 0 receiver pager match {job=\"b\"}\n")
	wrote(t, m, "up{job=\"a\"} 0\nup{job=\"b\"} 0\n")
	did(t, m, refuse("team"))
	did(t, m, refuse("nobody"))
	ticks(t, m, 0, "pager b/")
	did(t, m, take("team"))
	ticks(t, m, 1000, "team a/")
}

// What one group's flush tells hangs on silences and inhibitions at that time.
func TestTick_Held(t *testing.T) {
	m := loaded(t, `receiver team
group g every 1s
alert "A" labels {severity="critical"} expr up == 0
alert "B" labels {severity="warning"} expr up < 2
route receiver team by * wait 0s interval 1s
inhibit source {severity="critical"} target {severity="warning"} equal job
`)
	wrote(t, m, "up{job=\"a\"} 0\nup{job=\"b\"} 1\n")
	ticks(t, m, 0, "team a.critical/", "team b.warning/")
	says(t, m, quiet(`{alertname="A"}`, 0, 2000), 200, `{"id":1}`)
	wrote(t, m, "up{job=\"b\"} 0 500\nup{job=\"c\"} 0 500\n")
	// A is silent; it holds B of its job back nevertheless: of both groups that were told nothing is left.
	ticks(t, m, 1000, "team /", "team /")
	ticks(t, m, 2000, "team a.critical/", "team b.critical/", "team c.critical/")
}

// A group of alerts that is there already is flushed with what came since; what is over is told in one flush.
func TestTick_Group(t *testing.T) {
	m := loaded(t, "receiver team\ngroup g every 1s\nalert \"A\" expr up == 0\nroute receiver team wait 5s interval 10s\n")
	wrote(t, m, "up{job=\"a\"} 0\n")
	ticks(t, m, 0)
	wrote(t, m, "up{job=\"b\"} 0 3000\n")
	ticks(t, m, 3000)
	ticks(t, m, 5000, "team a,b/")
	wrote(t, m, "up{job=\"a\"} 1 6000\nup{job=\"c\"} 0 6000\n")
	ticks(t, m, 6000)
	ticks(t, m, 14999)
	ticks(t, m, 15000, "team b,c/a")
	ticks(t, m, 25000)
	wrote(t, m, "up{job=\"b\"} 1 26000\nup{job=\"c\"} 1 26000\n")
	ticks(t, m, 26000)
	ticks(t, m, 35000, "team /b,c")
	ticks(t, m, 45000)
}

// More alerts than the set has room for: those that are put are told.
func TestTick_FullSet(t *testing.T) {
	m := loaded(t, "receiver team\ngroup g every 1s\nalert \"A\" expr m\nroute receiver team wait 0s\n")
	var b strings.Builder
	for i := range 501 {
		fmt.Fprintf(&b, "m{n=\"%03d\"} 1\n", i)
	}
	wrote(t, m, b.String())
	out := did(t, m, tick(0))
	if len(m.Active()) != 501 || len(m.Alerts()) != 500 || len(out) != 1 || len(out[0].Notice.Firing) != 500 || out[0].Notice.Firing[499][1].Value != "499" {
		t.Error(len(m.Active()), len(m.Alerts()), len(out))
	}
}

// Of an alert that fires for longer than its set lets it, without being told again, and of one that is told late.
func TestTick_Late(t *testing.T) {
	b := newBoth(t)
	b.step(post("/reload", "resolve 1s\nlookback 1h\nreceiver team\ngroup g every 10s\nalert \"A\" expr up == 0\nroute receiver team wait 2s interval 3s repeat 5s\n"))
	b.step(post("/api/write", "up 0\n"))
	for at := int64(0); at < 60000; at += 500 {
		b.step(tick(at))
	}
}
