package over

import (
	"math"
	"slices"

	"tocsin/api"
)

// window has samples from above the time from up to the time to. What it comes to is asked only of as many samples as the table says.
type window struct {
	samples  []api.Sample
	from, to int64
}

// alive answers the samples but stale markers, as new memory.
func alive(l []api.Sample) []api.Sample {
	return slices.DeleteFunc(slices.Clone(l), func(x api.Sample) bool { return math.Float64bits(x.V) == stale })
}

func (w window) right() bool {
	if w.from < -api.MaxSpan || w.to > api.MaxTime || w.from >= w.to || w.to < 0 {
		return false
	}
	ahead := w.from
	for _, x := range w.samples {
		if x.T <= ahead || x.T > w.to {
			return false
		}
		ahead = x.T
	}
	return true
}

// values answers v1 to vn.
func (w window) values() []float64 {
	out := make([]float64, 0, len(w.samples))
	for _, x := range w.samples {
		out = append(out, x.V)
	}
	return out
}

// howOften counts the values of which something holds, held against the one ahead of each.
func (w window) howOften(holds func(ahead, v float64) bool) float64 {
	n := 0
	for i := 1; i < len(w.samples); i++ {
		if holds(w.samples[i-1].V, w.samples[i].V) {
			n++
		}
	}
	return float64(n)
}

// picked answers the value that none behind it is better than; what is no number gives its place to the next one.
func (w window) picked(better func(v, there float64) bool) float64 {
	there := w.samples[0].V
	for _, x := range w.samples[1:] {
		if better(x.V, there) || math.IsNaN(there) {
			there = x.V
		}
	}
	return there
}

// sum begins with the first value, since 0 and -0 would be 0.
func (w window) sum() float64 {
	all := w.samples[0].V
	for _, x := range w.samples[1:] {
		all += x.V
	}
	return all
}

func (w window) average() float64 { return w.sum() / w.count() }
func (w window) count() float64   { return float64(len(w.samples)) }
func (w window) last() float64    { return w.samples[len(w.samples)-1].V }
func (w window) present() float64 { return 1 }

func (w window) least() float64 {
	return w.picked(func(v, there float64) bool { return v < there })
}

func (w window) greatest() float64 {
	return w.picked(func(v, there float64) bool { return v > there })
}

func (w window) quantile(q float64) float64 {
	return Quantile(q, w.values())
}

func (w window) changes() float64 {
	return w.howOften(func(ahead, v float64) bool { return v != ahead && !(math.IsNaN(v) && math.IsNaN(ahead)) })
}

func (w window) resets() float64 {
	return w.howOften(func(ahead, v float64) bool { return v < ahead })
}
