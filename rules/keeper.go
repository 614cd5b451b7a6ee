package rules

import (
	"slices"

	"tocsin/api"
	"tocsin/labels"
	"tocsin/spans"
)

// alert is an alert of a rule: its labels, what it has gone through, its value when it was last told.
type alert struct {
	labels []api.Label
	life   life
	v      float64
}

// Keeper has the alerts of one rule.
type Keeper struct {
	marks  []api.Label // what each of its alerts has
	wait   int64
	keep   int64
	alerts map[string]alert // by the text of their labels
	last   int64
}

// New answers a keeper without alerts.
func New(r api.Rule) (*Keeper, api.Errno) {
	return Restore(r, nil, never)
}

// Restore answers a keeper of alerts that were there behind the evaluation at last.
func Restore(r api.Rule, l []api.Active, last int64) (*Keeper, api.Errno) {
	switch {
	case Rule(r) != api.OK, r.Record:
		return nil, api.ErrRule
	case !spans.Within(last, never, api.MaxTime):
		return nil, api.ErrArg
	}
	alerts, err := byText(l, func(x api.Active) (alert, error) { return restored(x, last) })
	if err != nil {
		return nil, number(err)
	}
	return &Keeper{marks: alertMarks(r), wait: r.For, keep: r.Keep, alerts: alerts, last: last}, api.OK
}

// Step evaluates: the points tell alerts. It answers those that are there then, and the labels of those that are resolved.
func (k *Keeper) Step(now int64, v []api.Point) ([]api.Active, [][]api.Label, api.Errno) {
	switch {
	case k == nil:
		return nil, nil, api.ErrNil
	case !spans.Time(now), now <= k.last:
		return nil, nil, api.ErrArg
	}
	told, err := byText(v, func(p api.Point) (alert, error) {
		set, err := alertLabels(k.marks, p.Labels)
		return alert{labels: set, v: p.V}, err
	})
	if err != nil {
		return nil, nil, numberOfPoints(err)
	}
	resolved := k.hear(now, told)
	k.last = now
	return k.Active(), resolved, api.OK
}

// Active answers the alerts, rising.
func (k *Keeper) Active() []api.Active {
	if k == nil {
		return nil
	}
	var out []api.Active
	for _, a := range rising(k.alerts) {
		out = append(out, api.Active{
			Labels: slices.Clone(a.labels),
			State:  a.life.state,
			Since:  a.life.since,
			Fired:  a.life.fired,
			Gone:   a.life.gone,
			V:      a.v,
		})
	}
	return out
}

// Last answers the time of the last evaluation, -1 ahead of the first one.
func (k *Keeper) Last() int64 {
	if k == nil {
		return never
	}
	return k.last
}

// hear takes the alerts that an evaluation tells in the place of those that are there, but for what is kept. It answers the labels of those that are resolved, rising.
func (k *Keeper) hear(now int64, told map[string]alert) [][]api.Label {
	var resolved [][]api.Label
	next := map[string]alert{}
	for text, a := range told {
		a.life = k.alerts[text].life.told(now, k.wait)
		next[text] = a
	}
	for text, a := range k.alerts {
		if _, is := told[text]; is {
			continue
		}
		fired := a.life.state == api.SFiring
		a.life = a.life.missed(now, k.keep)
		switch {
		case a.life != life{}:
			next[text] = a
		case fired:
			resolved = append(resolved, a.labels)
		}
	}
	k.alerts = next
	slices.SortFunc(resolved, func(a, b []api.Label) int { return labels.Compare(a, b) })
	return resolved
}

// restored answers an alert that was told ahead.
func restored(x api.Active, last int64) (alert, error) {
	l := life{state: x.State, since: x.Since, fired: x.Fired, gone: x.Gone}
	e, _ := labels.Right(x.Labels)
	if e != api.OK || len(x.Labels) == 0 || !l.canBe(last) {
		return alert{}, fault{number: api.ErrState, cause: errState}
	}
	return alert{labels: slices.Clone(x.Labels), life: l, v: x.V}, nil
}

// byText lays alerts into a map by the text of their labels. That two have one label set is told behind all other faults.
func byText[T any](list []T, made func(T) (alert, error)) (map[string]alert, error) {
	out := map[string]alert{}
	for _, x := range list {
		a, err := made(x)
		if err != nil {
			return nil, err
		}
		text, _ := labels.Print(a.labels)
		out[text] = a
	}
	if len(out) < len(list) {
		return nil, fault{number: api.ErrTwice, cause: errTwice}
	}
	return out, nil
}

// rising answers the alerts of a map by their label sets.
func rising(alerts map[string]alert) []alert {
	out := make([]alert, 0, len(alerts))
	for _, a := range alerts {
		out = append(out, a)
	}
	slices.SortFunc(out, func(a, b alert) int { return labels.Compare(a.labels, b.labels) })
	return out
}
