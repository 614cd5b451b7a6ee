package notify

import (
	"fmt"
	"slices"
	"strings"
	"testing"

	"tocsin/api"
	"tocsin/inhibit"
	"tocsin/nflog"
	"tocsin/silence"
)

func TestExamples_Stage(t *testing.T) {
	x := newStage(api.Alert{Labels: of("a", "1"), End: 100}, api.Alert{Labels: of("a", "2"), End: 3})
	x.now = 5
	n, told, e := x.ask(t)
	if !told || e != api.OK || n.Payload != `{"at":5,"receiver":"team","group":"0/{}","status":"firing","alerts":[{"status":"firing","labels":{"a":"1"}},{"status":"resolved","labels":{"a":"2"}}]}` {
		t.Error(n, told, e)
	}
}

// wrongs are changes of a stage that make it one with a fault, in the order of the faults.
func wrongs() []func(x *stage) {
	l := []func(x *stage){
		func(x *stage) { x.mute = nil },
		func(x *stage) { x.quiet = nil },
		func(x *stage) { x.log = nil },
		func(x *stage) { x.mute, x.quiet, x.log = nil, nil, nil },
	}
	for _, now := range noTimes() {
		l = append(l, func(x *stage) { x.now = now })
	}
	for _, s := range noReceivers() {
		l = append(l, func(x *stage) { x.r.Receiver = s })
	}
	for _, s := range noKeys() {
		l = append(l, func(x *stage) { x.f.Key = s })
	}
	for _, n := range []int64{0, -1, maxSpan + 1, -1 << 63, 1<<63 - 1} {
		l = append(l, func(x *stage) { x.r.Repeat = n })
	}
	for _, set := range wrongSets() {
		l = append(l, func(x *stage) { x.f.Alerts = append(slices.Clone(x.f.Alerts), api.Alert{Labels: set}) })
		l = append(l, func(x *stage) { x.firing = append(slices.Clone(x.firing), set) })
	}
	l = append(l, func(x *stage) { x.f.Alerts = append(slices.Clone(x.f.Alerts), crowd(501)...) })
	l = append(l, func(x *stage) {
		x.f.Alerts = append(slices.Clone(x.f.Alerts), fires("z", "1"), fires("y", "1"), over("z", "1"))
	})
	l = append(l, func(x *stage) {
		x.f.Alerts = append(slices.Clone(x.f.Alerts), api.Alert{End: 3}, fires("y", "1"), api.Alert{Labels: []api.Label{}})
	})
	return l
}

// crowd answers n alerts that fire.
func crowd(n int) []api.Alert {
	var l []api.Alert
	for i := range n {
		l = append(l, fires("crowd", fmt.Sprintf("%05d", i)))
	}
	return l
}

func TestP27_1_Errors(t *testing.T) {
	for i, first := range wrongs() {
		x := newStage(fires("a", "1"))
		first(x)
		if _, told, e := x.ask(t); told || e == api.OK {
			t.Error(i, told, e)
		}
		// Two faults at once: the one that is named first.
		for _, second := range wrongs() {
			y := x.copyOf()
			second(&y)
			y.ask(t)
		}
	}
	want := func(do func(x *stage), e api.Errno) {
		t.Helper()
		x := newStage(fires("a", "1"))
		do(x)
		if _, _, got := x.ask(t); got != e {
			t.Error(got, e)
		}
	}
	want(func(x *stage) { x.log, x.now = nil, -1 }, api.ErrNil)
	want(func(x *stage) { x.now, x.r.Receiver = -1, "" }, api.ErrArg)
	want(func(x *stage) { x.r.Receiver, x.f.Key = "", "" }, api.ErrReceiver)
	want(func(x *stage) { x.f.Key, x.r.Repeat = "", 0 }, api.ErrName)
	want(func(x *stage) { x.r.Repeat, x.firing = 0, [][]api.Label{of("a", "")} }, api.ErrArg)
	want(func(x *stage) { x.f.Alerts = append(crowd(501), api.Alert{Labels: of("a", "")}) }, api.ErrLabel)
	want(func(x *stage) { x.f.Alerts, x.firing = crowd(501), [][]api.Label{of("a", "")} }, api.ErrLabel)
	want(func(x *stage) { x.f.Alerts = append(crowd(500), fires("crowd", "00000")) }, api.ErrFull)
	want(func(x *stage) { x.f.Alerts = append(crowd(499), fires("crowd", "00000")) }, api.ErrTwice)
}

func TestP27_1_Bounds(t *testing.T) {
	for _, now := range []int64{0, 1, maxTime} {
		x := newStage(api.Alert{Labels: of("a", "1"), End: maxTime + 1})
		x.now = now
		if n, told, e := x.ask(t); !told || e != api.OK || n.At != now {
			t.Error(now, told, e)
		}
	}
	for _, s := range receivers() {
		x := newStage(fires("a", "1"))
		x.r.Receiver = s
		if n, told, e := x.ask(t); !told || e != api.OK || n.Receiver != s {
			t.Error(s, told, e)
		}
	}
	for _, s := range keys() {
		x := newStage(fires("a", "1"))
		x.f.Key = s
		if n, told, e := x.ask(t); !told || e != api.OK || n.Key != s {
			t.Error(len(s), told, e)
		}
	}
	for _, repeat := range []int64{1, 2, maxSpan} {
		x := newStage(fires("a", "1"))
		x.r.Repeat = repeat
		if _, told, e := x.ask(t); !told || e != api.OK {
			t.Error(repeat, told, e)
		}
	}
	x := newStage(crowd(500)...)
	if n, told, e := x.ask(t); !told || e != api.OK || len(n.Firing) != 500 {
		t.Error(told, e)
	}
	// What else a route and a flush have is of no matter.
	x = newStage(fires("a", "1"))
	x.f.Route = -7
	x.r = api.Route{Parent: 9, Receiver: "team", Matchers: []api.Matcher{{Op: 99}}, By: []string{""}, Wait: -1, Interval: -1, Repeat: 1}
	if _, told, e := x.ask(t); !told || e != api.OK {
		t.Error(told, e)
	}
	// The label set without labels is a right one.
	x = newStage(fires())
	x.firing = [][]api.Label{nil, {}}
	if n, told, e := x.ask(t); !told || e != api.OK || len(n.Firing) != 1 || !strings.Contains(n.Payload, `"labels":{}`) {
		t.Error(n, told, e)
	}
}

func TestP27_1_Firing(t *testing.T) {
	for _, c := range []struct {
		start, end      int64
		fires, resolved bool
	}{
		{50, 150, true, false}, {100, 101, true, false}, {0, maxTime + maxSpan, true, false}, {-5, 101, true, false},
		{50, 100, false, true}, {50, 99, false, true}, {100, 100, false, true}, {0, 0, false, true}, {-1 << 63, -1 << 63, false, true}, {150, 50, false, true}, {101, 100, false, true},
		{101, 150, false, false}, {101, 101, false, false}, {maxTime, maxTime, false, false}, {1<<63 - 1, 1<<63 - 1, false, false}, {150, 101, false, false},
	} {
		x := newStage(api.Alert{Labels: of("a", "1"), Start: c.start, End: c.end}, fires("b", "1"))
		n, told, e := x.ask(t)
		if !told || e != api.OK {
			t.Error(c, told, e)
		}
		if got := len(n.Firing) == 2; got != c.fires {
			t.Error(c, n.Firing)
		}
		if got := len(n.Resolved) == 1; got != c.resolved {
			t.Error(c, n.Resolved)
		}
	}
	// In any order they come, they are told rising.
	x := newStage(over("b", "2"), fires("b", "1"), fires("a", "2"), over("a", "1", "b", "1"), fires("a", "10"), over("a", "1"), fires("B", "9"))
	n, _, _ := x.ask(t)
	if !sameSets(n.Firing, [][]api.Label{of("B", "9"), of("a", "10"), of("a", "2"), of("b", "1")}) || !sameSets(n.Resolved, [][]api.Label{of("a", "1"), of("a", "1", "b", "1"), of("b", "2")}) {
		t.Error(n)
	}
}

// silentFor lets alerts with that label be silent at 100.
func (x *stage) silentFor(name, value string) {
	x.quiet.Add(0, api.Silence{Matchers: []api.Matcher{{Op: api.MEq, Name: name, Value: value}}, To: 1000})
}

// holding answers inhibitions by which critical holds warning back, of one job.
func holding() *inhibit.Rules {
	level := func(s string) []api.Matcher { return []api.Matcher{{Op: api.MEq, Name: "level", Value: s}} }
	r, _, _ := inhibit.New([]api.Inhibit{{Source: level("critical"), Target: level("warning"), Equal: []string{"job"}}})
	return r
}

func TestP27_1_Held(t *testing.T) {
	warn := fires("job", "a", "level", "warning")
	warnOver := over("job", "a", "level", "warning")
	other := fires("job", "b", "level", "warning")
	critical := of("job", "a", "level", "critical")
	for _, c := range []struct {
		alerts []api.Alert
		firing [][]api.Label
		silent []string
		want   int // how many are told of, if any
	}{
		{[]api.Alert{warn, other}, nil, nil, 2},
		{[]api.Alert{warn, other}, [][]api.Label{critical}, nil, 1},
		{[]api.Alert{warn, other}, [][]api.Label{of("job", "c", "level", "critical"), critical}, nil, 1},
		{[]api.Alert{warn, other}, [][]api.Label{of("job", "c", "level", "critical"), of("level", "critical")}, nil, 2},
		{[]api.Alert{warnOver, other}, [][]api.Label{critical}, nil, 1},
		{[]api.Alert{warn}, [][]api.Label{critical}, nil, 0},
		// An alert of the flush that is not among those that fire holds none back.
		{[]api.Alert{warn, fires("job", "a", "level", "critical")}, nil, nil, 2},
		{[]api.Alert{warn, fires("job", "a", "level", "critical")}, [][]api.Label{critical}, nil, 1},
		{[]api.Alert{warn, other}, nil, []string{"b"}, 1},
		{[]api.Alert{warn, other}, nil, []string{"a"}, 1},
		{[]api.Alert{warnOver, other}, nil, []string{"a"}, 1},
		{[]api.Alert{warn, other}, [][]api.Label{critical}, []string{"a"}, 1},
		{[]api.Alert{warn, other}, [][]api.Label{critical}, []string{"b"}, 0},
		{[]api.Alert{warn, other}, nil, []string{"a", "b"}, 0},
		{nil, [][]api.Label{critical}, nil, 0},
	} {
		x := newStage(c.alerts...)
		x.mute, x.firing = holding(), c.firing
		for _, job := range c.silent {
			x.silentFor("job", job)
		}
		n, told, e := x.ask(t)
		if got := len(n.Firing) + len(n.Resolved); got != c.want || told != (c.want > 0) || e != api.OK {
			t.Error(c, n, told, e)
		}
	}
	// A silence that is over, or pending, holds none.
	for _, s := range []api.Silence{{From: 0, To: 100}, {From: 101, To: 200}, {From: 100, To: 101}, {From: 0, To: 101}} {
		x := newStage(fires("a", "1"))
		s.Matchers = []api.Matcher{{Op: api.MEq, Name: "a", Value: "1"}}
		x.quiet.Add(0, s)
		if _, told, _ := x.ask(t); told != (s.To == 100 || s.From == 101) {
			t.Error(s, told)
		}
	}
}

// TestP27_1_Log: told and not told by the log, at each of its steps.
func TestP27_1_Log(t *testing.T) {
	one, two := fires("a", "1"), fires("a", "2")
	oneOver, twoOver := over("a", "1"), over("a", "2")
	for i, c := range []struct {
		alerts []api.Alert
		mark   *api.Mark
		told   bool
	}{
		// 1. Without a mark: if any alert fires.
		{nil, nil, false},
		{[]api.Alert{one}, nil, true},
		{[]api.Alert{oneOver}, nil, false},
		{[]api.Alert{one, twoOver}, nil, true},
		// 2. Those that fire are not all in the mark's Firing.
		{[]api.Alert{one}, &api.Mark{At: 100}, true},
		{[]api.Alert{one, two}, &api.Mark{At: 100, Firing: sets("1")}, true},
		{[]api.Alert{one, twoOver}, &api.Mark{At: 100, Firing: sets("2"), Resolved: sets("2")}, true},
		// 3. None fires: if the mark's Firing has any.
		{nil, &api.Mark{At: 100, Firing: sets("1")}, true},
		{[]api.Alert{oneOver}, &api.Mark{At: 100, Firing: sets("1")}, true},
		{[]api.Alert{oneOver}, &api.Mark{At: 100, Resolved: sets("2")}, false},
		{nil, &api.Mark{At: 0}, false},
		// 4. Those that are resolved are not all in the mark's Resolved.
		{[]api.Alert{one, twoOver}, &api.Mark{At: 100, Firing: sets("1")}, true},
		{[]api.Alert{one, twoOver}, &api.Mark{At: 100, Firing: sets("1", "2"), Resolved: sets("3")}, true},
		{[]api.Alert{one, twoOver}, &api.Mark{At: 100, Firing: sets("1"), Resolved: sets("2", "3")}, false},
		// 5. The mark's At is not above now - Repeat: 50.
		{[]api.Alert{one}, &api.Mark{At: 51, Firing: sets("1")}, false},
		{[]api.Alert{one}, &api.Mark{At: 50, Firing: sets("1")}, true},
		{[]api.Alert{one}, &api.Mark{At: 49, Firing: sets("1")}, true},
		{[]api.Alert{one, twoOver}, &api.Mark{At: 51, Firing: sets("1", "2"), Resolved: sets("2")}, false},
		{[]api.Alert{one, twoOver}, &api.Mark{At: 50, Firing: sets("1", "2"), Resolved: sets("2")}, true},
		{[]api.Alert{oneOver}, &api.Mark{At: 0, Resolved: sets("1")}, false},
		{[]api.Alert{one}, &api.Mark{At: 200, Firing: sets("1")}, false},
	} {
		for _, where := range []struct{ receiver, key string }{{"team", "0/{}"}, {"other", "0/{}"}, {"team", "1/{}"}} {
			x := newStage(c.alerts...)
			told := c.told
			if c.mark != nil {
				m := *c.mark
				m.Receiver, m.Key = where.receiver, where.key
				if e := x.log.Put(m); e != api.OK {
					t.Fatal(i, e)
				}
				if where.receiver != "team" || where.key != "0/{}" {
					told = slices.ContainsFunc(c.alerts, func(a api.Alert) bool { return a.End > 100 })
				}
			}
			if n, got, e := x.ask(t); got != told || e != api.OK {
				t.Error(i, where, n, got, e)
			}
		}
	}
	// What is hushed plays no part: it neither fires nor is resolved.
	x := newStage(one, two)
	x.silentFor("a", "2")
	x.log.Put(api.Mark{Receiver: "team", Key: "0/{}", At: 100, Firing: sets("1")})
	if n, told, _ := x.ask(t); told {
		t.Error(n)
	}
	x = newStage(one)
	x.silentFor("a", "1")
	x.log.Put(api.Mark{Receiver: "team", Key: "0/{}", At: 100, Firing: sets("1")})
	if n, told, _ := x.ask(t); !told || n.Payload != `{"at":100,"receiver":"team","group":"0/{}","status":"resolved","alerts":[]}` {
		t.Error(n)
	}
}

func TestP27_1_Model(t *testing.T) {
	r := newSource(271)
	told, not := 0, 0
	for range 20000 {
		x := r.stage()
		if r.Intn(10) == 0 {
			wrong := wrongs()
			wrong[r.Intn(len(wrong))](x)
		}
		switch _, is, e := x.ask(t); {
		case is:
			told++
		case e == api.OK:
			not++
		}
		if t.Failed() {
			return
		}
	}
	if told < 1000 || not < 1000 {
		t.Error(told, not)
	}
}

// TestP1_Zero: what nobody made holds nothing back.
func TestP1_Zero(t *testing.T) {
	x := newStage(fires("a", "1"))
	x.mute, x.quiet, x.log = &inhibit.Rules{}, &silence.Store{}, &nflog.Log{}
	if _, told, e := x.ask(t); !told || e != api.OK {
		t.Error(told, e)
	}
}

func TestP27_2_Payload(t *testing.T) {
	for _, c := range []struct {
		n    api.Notice
		want string
	}{
		{api.Notice{Receiver: "r", Key: "k"}, `{"at":0,"receiver":"r","group":"k","status":"resolved","alerts":[]}`},
		{api.Notice{At: maxTime, Receiver: "r", Key: "k", Firing: [][]api.Label{nil}}, `{"at":1125899906842624,"receiver":"r","group":"k","status":"firing","alerts":[{"status":"firing","labels":{}}]}`},
		{api.Notice{At: 5, Receiver: "r", Key: "k", Resolved: sets("1")}, `{"at":5,"receiver":"r","group":"k","status":"resolved","alerts":[{"status":"resolved","labels":{"a":"1"}}]}`},
		{api.Notice{At: 5, Receiver: "a\"b\\c/é", Key: "\n\r\t\x00\b\x1f\x7f€😀", Firing: [][]api.Label{of("a", "\"\\\n\x01é", "b", "2")}},
			`{"at":5,"receiver":"a\"b\\c/é","group":"\n\r\t\u0000\u0008\u001f` + "\x7f" + `€😀","status":"firing","alerts":[{"status":"firing","labels":{"a":"\"\\\n\u0001é","b":"2"}}]}`},
		// Label sets as they stand, twice too.
		{api.Notice{At: 5, Receiver: "r", Key: "k", Firing: sets("2", "1", "2"), Resolved: sets("3", "1")},
			`{"at":5,"receiver":"r","group":"k","status":"firing","alerts":[{"status":"firing","labels":{"a":"2"}},{"status":"firing","labels":{"a":"1"}},{"status":"firing","labels":{"a":"2"}},{"status":"resolved","labels":{"a":"3"}},{"status":"resolved","labels":{"a":"1"}}]}`},
	} {
		c.n.Payload = "of no matter \xff"
		if s := checkPayload(t, c.n); s != c.want {
			t.Errorf("%q; want %q", s, c.want)
		}
	}
	for _, receiver := range receivers() {
		for _, key := range keys() {
			checkPayload(t, notice(receiver, key))
		}
	}
	for c := range 128 {
		s := string(rune(c))
		checkPayload(t, api.Notice{Receiver: s, Key: s, Firing: [][]api.Label{of("a", s)}})
	}
	checkPayload(t, api.Notice{Receiver: "r", Key: "k", Firing: slices.Repeat(sets("1"), 2000), Resolved: slices.Repeat([][]api.Label{many(16)}, 501)})
}

// wrongNotices are notifications with a fault.
func wrongNotices() []api.Notice {
	var l []api.Notice
	change := func(do func(n *api.Notice)) {
		n := notice("team", "k")
		do(&n)
		l = append(l, n)
	}
	change(func(n *api.Notice) { *n = api.Notice{} })
	for _, at := range noTimes() {
		change(func(n *api.Notice) { n.At = at })
		change(func(n *api.Notice) { n.At, n.Receiver = at, "" })
		change(func(n *api.Notice) { n.At, n.Key, n.Firing = at, "", wrongSets() })
	}
	for _, s := range noReceivers() {
		change(func(n *api.Notice) { n.Receiver = s })
		change(func(n *api.Notice) { n.Receiver, n.Key = s, "" })
		change(func(n *api.Notice) { n.Receiver, n.Firing = s, wrongSets() })
	}
	for _, s := range noKeys() {
		change(func(n *api.Notice) { n.Key = s })
		change(func(n *api.Notice) { n.Key, n.Resolved = s, wrongSets() })
	}
	for _, set := range wrongSets() {
		change(func(n *api.Notice) { n.Firing = append(sets("1"), set) })
		change(func(n *api.Notice) { n.Firing = [][]api.Label{set} })
		change(func(n *api.Notice) { n.Resolved = append(sets("1"), set) })
		change(func(n *api.Notice) { n.Firing, n.Resolved = nil, [][]api.Label{set} })
	}
	return l
}

func TestP27_2_PayloadRefused(t *testing.T) {
	seen := map[api.Errno]int{}
	for i, n := range wrongNotices() {
		checkPayload(t, n)
		s, e := Payload(n)
		if s != "" || e == api.OK {
			t.Error(i, s, e)
		}
		seen[e]++
	}
	for _, e := range []api.Errno{api.ErrArg, api.ErrReceiver, api.ErrName, api.ErrLabel} {
		if seen[e] == 0 {
			t.Error("never", e)
		}
	}
}

func TestP27_2_Mark(t *testing.T) {
	l := append(wrongNotices(), notice("team", "k"), api.Notice{At: -5, Payload: "x"})
	for _, n := range l {
		was := copyNotice(n)
		m := Mark(n)
		if m.Receiver != n.Receiver || m.Key != n.Key || m.At != n.At || !sameSets(m.Firing, n.Firing) || !sameSets(m.Resolved, n.Resolved) {
			t.Error(m, n)
		}
		spoil(m.Firing)
		spoil(m.Resolved)
		if !sameNotice(n, was) {
			t.Error("shared", n)
		}
	}
	// One list on both sides: what is answered of it is not one.
	one := sets("1")
	m := Mark(api.Notice{Firing: one, Resolved: one})
	spoil(m.Firing)
	if !sameSets(m.Resolved, sets("1")) {
		t.Error(m)
	}
}

// TestP27_5_Never: nothing is listed that is silent, held back, or not in the flush.
func TestP27_5_Never(t *testing.T) {
	r := newSource(275)
	listed := 0
	for range 10000 {
		x := r.stage()
		n, _, _ := Stage(x.now, x.f, x.r, x.firing, x.mute, x.quiet, x.log)
		for i, set := range append(copySets(n.Firing), n.Resolved...) {
			listed++
			in := slices.ContainsFunc(x.f.Alerts, func(a api.Alert) bool {
				return slices.Equal(a.Labels, set) && (i < len(n.Firing)) == (a.End > x.now) && (a.End <= x.now || a.Start <= x.now)
			})
			ids, _ := x.quiet.Silent(x.now, set)
			by, _, _ := x.mute.By(set, x.firing...)
			if !in || len(ids) > 0 || by != -1 {
				t.Error(set, in, ids, by)
			}
		}
	}
	if listed < 5000 {
		t.Error(listed)
	}
}

// TestP27_6_Once: with the mark of what was told, the same is not told until Repeat has gone by.
func TestP27_6_Once(t *testing.T) {
	r := newSource(276)
	told := 0
	for range 5000 {
		x := r.stage()
		// They neither end nor begin while they are told of, so that it is the same.
		for i := range x.f.Alerts {
			if a := &x.f.Alerts[i]; a.End > x.now {
				a.Start, a.End = min(a.Start, x.now), 10000
			}
		}
		x.quiet = silence.New()
		n, is, _ := x.ask(t)
		if !is {
			continue
		}
		told++
		if e := x.log.Put(Mark(n)); e != api.OK {
			continue // a later one is there
		}
		began := x.now
		for _, later := range []int64{0, 1, 49, 50, 51, 500} {
			x.now = began + later
			_, is, e := x.ask(t)
			if is != (later >= 50 && len(n.Firing) > 0) || e != api.OK {
				t.Error(later, is, e, n)
			}
		}
	}
	if told < 1000 {
		t.Error(told)
	}
}
