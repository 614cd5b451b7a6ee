package mono

import (
	"slices"

	"tocsin/api"
	"tocsin/eval"
	"tocsin/notify"
	"tocsin/rules"
	"tocsin/spans"
)

const (
	keptResolved = 900000 // how long the set of alerts keeps what is resolved
	mostRecords  = 40     // with more of them the log begins anew
)

// tick lets the clock go on to a time, and does all that is to be done by then.
func (m *Machine) tick(e api.Entry) ([]api.Out, api.Errno) {
	if !spans.Within(e.N, m.now, api.MaxTime) {
		return nil, api.ErrArg
	}
	m.now = e.N
	evaluated := m.evaluateDue()
	m.alerts.Sweep(m.now, keptResolved)
	m.flush()
	taken := m.send()
	if evaluated {
		m.log.Append(activeRecord(m.courses))
	}
	if len(taken) > 0 {
		m.log.Sync()
	}
	if m.log.Len() > mostRecords {
		m.checkpoint()
	}
	return told(taken...), api.OK
}

// told answers notifications as they are put out.
func told(notices ...api.Notice) []api.Out {
	var out []api.Out
	for _, n := range notices {
		out = append(out, api.Out{Notice: n})
	}
	return out
}

// evaluateDue evaluates the groups whose time has come, and tells whether there was one.
func (m *Machine) evaluateDue() bool {
	some := false
	for i, g := range m.config.Groups {
		c := &m.courses[i]
		if m.next(g, c.last) <= m.now {
			m.evaluate(g.Rules, c.keepers)
			c.last = m.now
			some = true
		}
	}
	return some
}

// next answers the evaluation of a group behind the last one.
func (m *Machine) next(g api.Group, last int64) int64 {
	if last == never {
		return m.loaded
	}
	at, _ := rules.Next(m.loaded, g.Every, last)
	return at
}

// evaluate evaluates rules, one after another, so that each sees what those ahead of it have recorded.
func (m *Machine) evaluate(list []api.Rule, keepers []*rules.Keeper) {
	for i, r := range list {
		points, e := m.points(r.Expr)
		switch {
		case e != api.OK:
			// The rule is left as it is.
		case r.Record:
			m.record(r, points)
		default:
			m.watch(keepers[i], points)
		}
	}
}

// points answers what an expression comes to now, a scalar as a point without labels.
func (m *Machine) points(expr string) ([]api.Point, api.Errno) {
	v, e, _ := eval.Query(m.store, expr, m.now, m.config.Lookback)
	if v.Kind == api.VScalar {
		return []api.Point{{V: v.V}}, e
	}
	return v.Points, e
}

// record puts the points of a recording rule.
func (m *Machine) record(r api.Rule, points []api.Point) {
	recorded, _ := rules.Record(r, points)
	for _, p := range recorded {
		m.put(p.Labels, api.Sample{T: m.now, V: p.V})
	}
}

// watch lets a keeper hear the points of its rule, and raises the alerts that fire, and those that are over.
func (m *Machine) watch(k *rules.Keeper, points []api.Point) {
	active, resolved, _ := k.Step(m.now, points)
	for _, a := range active {
		if a.State == api.SFiring {
			m.raise(api.Alert{Labels: a.Labels, Start: a.Fired})
		}
	}
	for _, set := range resolved {
		m.raise(api.Alert{Labels: set, Start: m.now, End: m.now})
	}
}

// raise brings an alert into the set, and, as it is there then, on the board.
func (m *Machine) raise(a api.Alert) {
	if m.alerts.Put(m.now, a) == api.OK {
		a, _ = m.alerts.Get(a.Labels)
		m.board.Put(m.now, a)
	}
}

// flush offers what must be told of the groups of alerts whose time has come.
func (m *Machine) flush() {
	due, _ := m.board.Due(m.now)
	var firing [][]api.Label
	for _, a := range m.alerts.Firing(m.now) {
		firing = append(firing, a.Labels)
	}
	for _, f := range due {
		n, is, _ := notify.Stage(m.now, f, m.config.Routes[f.Route], firing, m.mute, m.silences, m.marks)
		if is {
			m.sender.Offer(m.now, n)
		}
	}
}

// send tries what waits, notes what was taken, and answers it.
func (m *Machine) send() []api.Notice {
	isRefusing := func(receiver string) bool {
		_, is := m.refusing[receiver]
		return is
	}
	takes := slices.DeleteFunc(slices.Clone(m.config.Receivers), isRefusing)
	taken, _, _ := m.sender.Try(m.now, takes)
	for _, n := range taken {
		mark := notify.Mark(n)
		if m.marks.Put(mark) == api.OK {
			m.log.Append(markRecord(mark))
		}
	}
	m.notices.Add(int64(len(taken)))
	return taken
}
