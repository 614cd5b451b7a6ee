package eval

import (
	"math"
	"slices"

	"tocsin/api"
	"tocsin/labels"
	"tocsin/store"
)

// metricName is the label whose value is a metric's name.
const metricName = "__name__"

// until answers the last time that a selector reads, which may be below 0.
func (x selector) until(r *run) int64 {
	return r.at - x.offset
}

func (x selector) comesTo(r *run) (api.Value, api.Errno) {
	v, read, e := x.reads(r)
	if e != api.OK {
		return api.Value{}, e
	}
	r.read += read
	if r.read > api.MaxSamples {
		return api.Value{}, api.ErrLarge
	}
	return v, api.OK
}

// reads answers what a selector reads, and how many samples these are.
func (x selector) reads(r *run) (api.Value, int, api.Errno) {
	if x.span == 0 {
		points, e := x.points(r)
		return api.Value{Kind: api.VVector, Points: points}, len(points), e
	}
	series, e := x.series(r, x.span)
	read := 0
	for _, s := range series {
		read += len(s.Samples)
	}
	return api.Value{Kind: api.VMatrix, Series: alive(series)}, read, e
}

func (x selector) points(r *run) ([]api.Point, api.Errno) {
	if x.until(r) < 0 {
		return nil, api.OK
	}
	return r.store.Instant(x.matchers, x.until(r), r.lookback)
}

// series answers what the store has in the last span, as it is stored.
func (x selector) series(r *run, span int64) ([]api.Series, api.Errno) {
	to := x.until(r)
	if to < 0 {
		return nil, api.OK
	}
	return r.store.Range(x.matchers, max(to-span+1, 0), to)
}

func isStale(v float64) bool {
	return math.Float64bits(v) == store.Stale
}

// alive answers the series, which are the caller's own, without stale markers; those that have nothing else are left out.
func alive(l []api.Series) []api.Series {
	for i, s := range l {
		l[i].Samples = slices.DeleteFunc(s.Samples, func(x api.Sample) bool { return isStale(x.V) })
	}
	return slices.DeleteFunc(l, func(s api.Series) bool { return len(s.Samples) == 0 })
}

// stamps answers, of each point that a selector reads, the time of its sample.
func (x selector) stamps(r *run) ([]api.Point, api.Errno) {
	series, e := x.series(r, r.lookback)
	if e != api.OK {
		return nil, e
	}
	var out []api.Point
	for _, s := range series {
		last := s.Samples[len(s.Samples)-1]
		if !isStale(last.V) {
			out = append(out, api.Point{Labels: s.Labels, V: seconds(last.T)})
		}
	}
	return out, api.OK
}

// named answers the labels that what a selector matches would have for sure.
func (x selector) named() []api.Label {
	often := map[string]int{}
	for _, m := range x.matchers {
		often[m.Name]++
	}
	var l []api.Label
	for _, m := range x.matchers {
		if m.Op == api.MEq && often[m.Name] == 1 && m.Name != metricName {
			l = append(l, api.Label{Name: m.Name, Value: m.Value})
		}
	}
	set, _ := labels.Make(l) // empty values are left out
	return set
}

// seconds answers a number of milliseconds as seconds.
func seconds(n int64) float64 {
	return float64(n) / 1000
}
