package eval

import (
	"fmt"
	"math/rand"
	"strings"
	"testing"

	"tocsin/api"
	"tocsin/expo"
	"tocsin/labels"
)

// bars answers buckets of a text: le, a colon, a value, a blank between two.
func bars(text string) []api.Series {
	var l []api.Series
	for _, one := range strings.Fields(text) {
		le, value, _ := strings.Cut(one, ":")
		v, e := expo.Float(value)
		if e != api.OK {
			panic(text)
		}
		set := of("__name__", "h", "a", "1", "le", le)
		l = append(l, api.Series{Labels: set, Samples: []api.Sample{at(0, v)}})
	}
	return l
}

func TestP18_1_HistogramQuantile(t *testing.T) {
	for _, x := range []struct {
		q    string
		bars string
		want string
	}{
		{"0.5", "1:2 2:4 +Inf:4", "1"}, {"0.75", "1:2 2:4 +Inf:4", "1.5"}, {"1", "1:2 2:4 +Inf:4", "2"}, {"0.25", "1:2 2:4 +Inf:4", "0.5"}, {"0", "1:2 2:4 +Inf:4", "0"}, {"0.9", "1:2 2:4 4:8 +Inf:10", "4"}, {"0.6", "1:2 2:4 4:8 +Inf:10", "3"}, {"0.5", "2:4 +Inf:4 1:2", "1"},
		// Fewer than two, a last one that is not +Inf, a last value of 0: the NaN, whatever q is.
		{"0.5", "+Inf:4", "NaN"}, {"0.5", "1:4", "NaN"}, {"0.5", "1:2 2:4", "NaN"}, {"0.5", "1:0 +Inf:0", "NaN"}, {"0.5", "1:-0 +Inf:-0", "NaN"}, {"-1", "+Inf:4", "NaN"}, {"2", "1:2 2:4", "NaN"}, {"2", "1:0 +Inf:0", "NaN"}, {"0.5", "Inf:4 +Inf:2", "NaN"},
		// Those that are no number's text are left out.
		{"0.5", "x:7 1:2 2:4 +Inf:4 NaN:9", "1"}, {"0.5", "x:7 +Inf:4", "NaN"}, {"0.5", "1_:1 1:2 2:4 +Inf:4", "1"}, {"0.5", "0x1:1 1:2 2:4 +Inf:4", "1"},
		// q below 0, above 1, no number.
		{"-1", "1:2 +Inf:4", "-Inf"}, {"-5e-324", "1:2 +Inf:4", "-Inf"}, {"-Inf", "1:2 +Inf:4", "-Inf"}, {"1.1", "1:2 +Inf:4", "+Inf"}, {"Inf", "1:2 +Inf:4", "+Inf"}, {"NaN", "1:2 +Inf:4", "NaN"}, {"-0", "1:2 +Inf:4", "0"},
		// The last bucket: the le of the one ahead.
		{"0.9", "1:2 +Inf:4", "1"}, {"0.9", "-1:2 +Inf:4", "-1"}, {"0.51", "1:2 +Inf:4", "1"}, {"0.5", "1:2 +Inf:4", "1"}, {"1", "1:3 2:3 +Inf:4", "2"},
		// The first one, its le not above 0: its le.
		{"0.1", "0:2 1:4 +Inf:4", "0"}, {"0.1", "-3:2 1:4 +Inf:4", "-3"}, {"0.1", "-0:2 1:4 +Inf:4", "-0"}, {"0.1", "-Inf:2 1:4 +Inf:4", "-Inf"}, {"0.75", "0:2 1:4 +Inf:4", "0.5"}, {"0.75", "-3:2 1:4 +Inf:4", "-1"}, {"0.75", "-Inf:2 1:4 +Inf:4", "NaN"}, {"0.1", "5e-324:2 1:4 +Inf:4", "0"},
		// Values that fall, or are no numbers, are as the one ahead.
		{"0.5", "1:2 2:1 4:4 +Inf:3", "1"}, {"0.75", "1:2 2:1 4:4 +Inf:3", "3"}, {"0.75", "1:2 2:NaN 4:4 +Inf:4", "3"}, {"0.75", "1:2 2:4 +Inf:NaN", "1.5"}, {"0.75", "1:NaN 2:4 +Inf:4", "NaN"}, {"0.75", "1:NaN 2:NaN 3:4 +Inf:4", "NaN"}, {"0.75", "1:NaN 2:NaN +Inf:NaN", "2"}, {"0.5", "1:4 +Inf:-4", "0.5"}, {"0.5", "1:NaN +Inf:4", "1"},
		// One le twice: the sums.
		{"0.5", "1:1 1.0:1 2:4 +Inf:4", "1"}, {"0.5", "1:2 2:4 Inf:1 +Inf:3", "1"}, {"0.5", "1:1 1e0:1 2:1 2.0:3 +Inf:2 Inf:2", "1"}, {"0.5", "1:2 1.0:NaN 2:4 +Inf:4", "NaN"}, {"0.1", "0:1 -0:1 1:4 +Inf:4", "-0"}, {"0.1", "0:1 +0:1 1:4 +Inf:4", "0"},
		// Odd ones: nothing in the bucket that is met; values below 0; infinite ones.
		{"0", "1:0 2:4 +Inf:4", "NaN"}, {"0.5", "1:-2 +Inf:-1", "1"}, {"0.5", "1:-1 2:-1 +Inf:-1", "2"}, {"0.5", "1:2 2:Inf +Inf:Inf", "NaN"}, {"0", "1:2 +Inf:Inf", "1"}, {"0.5", "1:1 +Inf:Inf", "1"}, {"0.5", "1:Inf +Inf:Inf", "NaN"},
		{"0.3", "0.1:1 0.7:3 +Inf:7", "0.43000000000000005"},
	} {
		series := bars(x.bars)
		rise := cloneSeries(series)
		s := stored(t, rise)
		text := "histogram_quantile(" + x.q + ", h)"
		says(t, s, text, 0, `{a="1"} `+x.want)
		sortSeries(series)
		holds(t, s, series, text, 0, 1)
	}
}

func sortSeries(l []api.Series) {
	for i := range l {
		for j := range i {
			if labels.Compare(l[i].Labels, l[j].Labels) < 0 {
				l[i], l[j] = l[j], l[i]
			}
		}
	}
}

func TestP18_1_HistogramGroups(t *testing.T) {
	series := []api.Series{
		ser(`h{a="1",le="+Inf"}`, at(0, 4)), ser(`h{a="1",le="1"}`, at(0, 2)), ser(`h{a="2",le="+Inf"}`, at(0, 8)), ser(`h{a="2",le="4"}`, at(0, 8)), ser(`h{a="3",le="x"}`, at(0, 8)), ser(`h{a="4"}`, at(0, 8)), ser(`h{le="+Inf"}`, at(0, 8)),
		// Another name is of the same group.
		ser(`k{a="1",le="2"}`, at(0, 3)),
	}
	s := stored(t, series)
	says(t, s, "histogram_quantile(0.75, h)", 0, "{} NaN\n{a=\"1\"} 1\n{a=\"2\"} 3")
	says(t, s, `histogram_quantile(0.75, {__name__=~"h|k"})`, 0, "{} NaN\n{a=\"1\"} 2\n{a=\"2\"} 3")
	says(t, s, `histogram_quantile(0.75, {__name__=~"h|k"} + 0)`, 0, "{} NaN\n{a=\"1\"} 2\n{a=\"2\"} 3")
	says(t, s, "histogram_quantile(time(), h)", 500, "{} NaN\n{a=\"1\"} 1\n{a=\"2\"} 2")
	says(t, s, `histogram_quantile(0.75, h{a="3"})`, 0, "")
	says(t, s, `histogram_quantile(0.75, h{a="4"})`, 0, "")
	says(t, s, "histogram_quantile(0.75, nope)", 0, "")
	says(t, s, "histogram_quantile(0.75, vector(1))", 0, "")
	// Sums go by the order of the label sets: __name__ first, then le.
	sums := []api.Series{ser(`a{le="+Inf"}`, at(0, 1e16)), ser(`b{le="+Inf"}`, at(0, 1)), ser(`b{le="1"}`, at(0, 1)), ser(`c{le="+Inf"}`, at(0, 1))}
	w := stored(t, sums)
	v, e := holds(t, w, sums, `histogram_quantile(0.0000000000000001, {le!=""})`, 0, 1)
	if e != api.OK || v.Points[0].V != 1 { // 1e16, not 1e16 + 2, of which r would be above 1
		t.Error(exact(v), e)
	}
}

func TestP18_1_AnyHistograms(t *testing.T) {
	r := rand.New(rand.NewSource(5))
	for range 4000 {
		var text []string
		used := map[string]int{}
		for range r.Intn(7) {
			le := pick(r, "1", "2", "4", "+Inf", "+Inf", "0", "-1", "1.0", "-0", "0.1", "Inf", "1e1", "-Inf", "NaN", "?")
			if used[le]++; used[le] > 1 {
				continue
			}
			text = append(text, le+":"+pick(r, "0", "1", "2", "3", "4", "0.1", "10", "NaN", "-1", "Inf", "-0", fmt.Sprint(r.Float64()*5)))
		}
		if r.Intn(2) == 0 && used["+Inf"] == 0 {
			text = append(text, "+Inf:20")
		}
		series := bars(strings.Join(text, " "))
		s := stored(t, series)
		sortSeries(series)
		holds(t, s, series, "histogram_quantile("+pick(r, "0", "1", "0.5", "0.9", "0.1", "-1", "2", "NaN", "0.3")+", h)", 0, 1)
	}
}
