package over

import "tocsin/api"

// seconds answers a number of milliseconds as seconds.
func seconds(n int64) float64 {
	return float64(n) / 1000
}

// ends answers the first and the last sample.
func (w window) ends() (api.Sample, api.Sample) {
	return w.samples[0], w.samples[len(w.samples)-1]
}

// ahead answers how many seconds lie ahead of the first sample.
func (w window) ahead() float64 {
	return seconds(w.samples[0].T - w.from)
}

func (w window) delta() float64 {
	first, last := w.ends()
	return (last.V - first.V) * w.stretch(w.ahead())
}

func (w window) increase() float64 {
	r := w.gain()
	return r * w.stretch(w.sinceZero(r))
}

func (w window) rate() float64 {
	r := w.gain()
	f := w.stretch(w.sinceZero(r)) / seconds(w.to-w.from)
	return r * f
}

// gain answers how much a counter has grown, which begins anew at 0 where it falls.
func (w window) gain() float64 {
	first, last := w.ends()
	r := last.V - first.V
	for i := 1; i < len(w.samples); i++ {
		if before := w.samples[i-1].V; w.samples[i].V < before {
			r += before
		}
	}
	return r
}

// sinceZero is ahead, but no longer ago than when a counter that grows by r as it does here was 0.
func (w window) sinceZero(r float64) float64 {
	first, last := w.ends()
	s := w.ahead()
	if r > 0 && first.V >= 0 {
		// The conversion keeps the product from being one operation with a sum.
		if z := float64(seconds(last.T-first.T) * (first.V / r)); z < s {
			return z
		}
	}
	return s
}

// stretch answers by how much the samples' own time is less than that of the whole window, of which s seconds lie ahead of them: an end that is farther off than two samples are counts as half of that.
func (w window) stretch(s float64) float64 {
	first, last := w.ends()
	e := seconds(w.to - last.T)
	width := seconds(last.T - first.T)
	apart := width / float64(len(w.samples)-1)
	far := apart * 1.1
	y := width
	for _, end := range []float64{s, e} {
		if end < far {
			y += end
		} else {
			y += apart / 2
		}
	}
	return y / width
}

// lastTwo answers the last sample and the one ahead of it.
func (w window) lastTwo() (api.Sample, api.Sample) {
	n := len(w.samples)
	return w.samples[n-1], w.samples[n-2]
}

func (w window) lastDelta() float64 {
	last, before := w.lastTwo()
	return last.V - before.V
}

func (w window) lastRate() float64 {
	last, before := w.lastTwo()
	d := last.V - before.V
	if last.V < before.V {
		d = last.V
	}
	return d / seconds(last.T-before.T)
}
