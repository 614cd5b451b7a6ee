package eval

import (
	"math/rand"
	"strings"
	"testing"

	"tocsin/api"
	"tocsin/parse"
)

func TestP18_1_AnyExpressions(t *testing.T) {
	r := rand.New(rand.NewSource(181))
	g := gen{r}
	counts, full := map[api.Errno]int{}, 0
	for range 400 {
		series, s := world(t, r)
		for range 40 {
			text := g.any()
			x, e, _ := parse.Parse(text)
			if e != api.OK {
				t.Fatal("no expression", text, e)
			}
			if _, e, _ := parse.Check(x); e != api.OK {
				counts[e]++
				continue
			}
			v, e := holds(t, s, series, text, someTime(r), someLookback(r))
			counts[e]++
			if len(v.Points)+len(v.Series) > 0 {
				full++
			}
		}
	}
	for _, e := range []api.Errno{api.OK, api.ErrArg, api.ErrMany} {
		if counts[e] < 200 {
			t.Error("few of", e, counts)
		}
	}
	if full < 3000 {
		t.Error("few that tell something", full, counts)
	}
}

func TestP18_2_AnyExpressions(t *testing.T) {
	r := rand.New(rand.NewSource(182))
	g := gen{r}
	counts := map[api.Errno]int{}
	for range 150 {
		series, s := world(t, r)
		for range 15 {
			text := g.any()
			if _, e, _ := parse.Check(tree(t, text)); e != api.OK {
				continue
			}
			from := r.Int63n(60 * second)
			to := from + r.Int63n(60*second) - 2*second
			_, e := holdsRange(t, s, series, text, from, to, 1+r.Int63n(30*second)+second, someLookback(r))
			counts[e]++
		}
	}
	for _, e := range []api.Errno{api.OK, api.ErrType, api.ErrArg, api.ErrMany} {
		if counts[e] < 20 {
			t.Error("few of", e, counts)
		}
	}
}

// P18.4: Range tells, at each time, what Instant tells.
func TestP18_4_RangeAndInstant(t *testing.T) {
	r := rand.New(rand.NewSource(184))
	g := gen{r}
	for range 300 {
		_, s := world(t, r)
		text := g.vector(1 + r.Intn(4))
		if r.Intn(5) == 0 {
			text = g.scalar(3)
		}
		x := tree(t, text)
		from, step := r.Int63n(50*second), 1+r.Int63n(20*second)
		to := from + r.Int63n(100*second)
		rows, e := Range(s, x, from, to, step, 30*second)
		if e != api.OK {
			continue
		}
		told := 0
		for now := from; now <= to; now += step {
			v, e := Instant(s, x, now, 30*second)
			if e != api.OK {
				t.Fatal(text, now, e)
			}
			var points []api.Point
			for _, row := range rows {
				for _, sample := range row.Samples {
					if sample.T == now {
						points = append(points, api.Point{Labels: row.Labels, V: sample.V})
						told++
					}
				}
			}
			if v.Kind == api.VScalar {
				v = api.Value{Kind: api.VVector, Points: []api.Point{{V: v.V}}}
			}
			if got := (api.Value{Kind: api.VVector, Points: points}); exact(got) != exact(v) {
				t.Fatal(text, now, exact(got), "not", exact(v))
			}
		}
		for _, row := range rows {
			told -= len(row.Samples)
		}
		if told != 0 {
			t.Fatal("samples at no step", text, exactSeries(rows))
		}
	}
}

// P18.5: parentheses and blanks change nothing.
func TestP18_5_Parentheses(t *testing.T) {
	r := rand.New(rand.NewSource(185))
	g := gen{r}
	for range 300 {
		_, s := world(t, r)
		for range 6 {
			text := g.vector(1 + r.Intn(4))
			now := r.Int63n(110 * second)
			want, e, _ := Query(s, text, now, 30*second)
			blanks := text
			for _, sign := range []string{"(", ")", ","} {
				blanks = strings.ReplaceAll(blanks, sign, "\t "+sign+" \n")
			}
			for _, other := range []string{"(" + text + ")", "((" + text + "))", " " + text + " # remark", blanks} {
				got, ge, _ := Query(s, other, now, 30*second)
				if ge != e || exact(got) != exact(want) {
					t.Fatal(other, exact(got), ge, exact(want), e)
				}
			}
		}
		// A part within functions that look at what their argument is.
		part := g.selector() + g.offset()
		now := r.Int63n(110 * second)
		for _, call := range []string{"timestamp(", "absent(", "abs(", "sum(", "-(", "scalar("} {
			want, e, _ := Query(s, call+part+")", now, 30*second)
			got, ge, _ := Query(s, call+" (( "+part+")) )", now, 30*second)
			if ge != e || exact(got) != exact(want) {
				t.Fatal(call, part, exact(got), ge, exact(want), e)
			}
		}
	}
}

// P18.6: later samples, and samples of series that none asks for, change nothing.
func TestP18_6_Others(t *testing.T) {
	r := rand.New(rand.NewSource(186))
	g := gen{r}
	for range 300 {
		series, s := world(t, r)
		now := r.Int63n(100 * second)
		var cut []api.Series
		for _, one := range cloneSeries(series) {
			n := 0
			for n < len(one.Samples) && one.Samples[n].T <= now {
				n++
			}
			if n > 0 {
				cut = append(cut, api.Series{Labels: one.Labels, Samples: one.Samples[:n]})
			}
		}
		fewer := stored(t, cut)
		for range 6 {
			text := g.any()
			want, e, _ := Query(fewer, text, now, 30*second)
			got, ge, _ := Query(s, text, now, 30*second)
			if ge != e || exact(got) != exact(want) {
				t.Fatal(text, now, exact(got), ge, exact(want), e)
			}
		}
		more := stored(t, append(cloneSeries(series), ser(`zzz{c="1"}`, at(0, 1), at(now, 2), at(now+1, 3))))
		for _, text := range []string{"m", "sum(m)", "rate(m[1m])", "timestamp(n)", "absent(h)", `label_join(n, "x", ",", "a", "b")`, "m or n", `count by (a) ({a=~".+"})`, "histogram_quantile(0.9, h)"} {
			want, e, _ := Query(s, text, now, 30*second)
			got, ge, _ := Query(more, text, now, 30*second)
			if ge != e || exact(got) != exact(want) {
				t.Fatal(text, now, exact(got), ge, exact(want), e)
			}
		}
	}
}

// P18.7: and and unless part what stands ahead of them; x or x is x.
func TestP18_7_Sets(t *testing.T) {
	r := rand.New(rand.NewSource(187))
	g := gen{r}
	parted := 0
	for range 300 {
		_, s := world(t, r)
		for range 5 {
			a, b, now := "("+g.vector(2)+")", "("+g.vector(2)+")", r.Int63n(110*second)
			va, e, _ := Query(s, a, now, 30*second)
			_, e2, _ := Query(s, b, now, 30*second)
			if e != api.OK || e2 != api.OK {
				continue
			}
			how := pick(r, "", " on (a)", " ignoring (b)", " on ()")
			both, e, _ := Query(s, a+" and"+how+b, now, 30*second)
			left, e2, _ := Query(s, a+" unless"+how+b, now, 30*second)
			if e != api.OK || e2 != api.OK || len(both.Points)+len(left.Points) != len(va.Points) {
				t.Fatal(a, how, b, exact(both), exact(left), exact(va), e, e2)
			}
			for _, p := range va.Points {
				in := 0
				for _, q := range append(clonePoints(both.Points), left.Points...) {
					if exact(api.Value{Points: []api.Point{p}}) == exact(api.Value{Points: []api.Point{q}}) {
						in++
					}
				}
				if in != 1 {
					t.Fatal(a, how, b, p)
				}
				parted++
			}
			or, e, _ := Query(s, a+" or "+a, now, 30*second)
			if e != api.OK || exact(or) != exact(va) {
				t.Fatal(a, exact(or), exact(va), e)
			}
		}
	}
	if parted < 500 {
		t.Error("few points", parted)
	}
}

func FuzzEval(f *testing.F) {
	r := rand.New(rand.NewSource(9))
	g := gen{r}
	for range 200 {
		f.Add(r.Int63n(50), g.any(), r.Int63n(110*second), 30*second+r.Int63n(second), r.Int63n(30*second))
	}
	f.Add(int64(1), "1 +", int64(-1), int64(0), int64(-5))
	f.Add(int64(2), "m[5m] offset 1h", int64(1)<<50, int64(1)<<40, int64(1)<<40)
	f.Fuzz(func(t *testing.T, seed int64, text string, now, lookback, step int64) {
		series, s := world(t, rand.New(rand.NewSource(seed)))
		x, e, place := parse.Parse(text)
		v, ge, at := Query(s, text, now, lookback)
		if e != api.OK {
			if ge != e || at != place || exact(v) != exact(api.Value{}) {
				t.Fatal(text, exact(v), ge, at, e, place)
			}
			return
		}
		got, ge2 := holds(t, s, series, text, now, lookback)
		if ge != ge2 || at != 0 || exact(v) != exact(got) || !Same(v, got) && ge == api.OK {
			t.Fatal(text, exact(v), ge, at, exact(got), ge2)
		}
		if ge == api.OK {
			want, e := modelShow(v)
			if told, te := Show(v); told != want || te != e {
				t.Fatal(text, told, te, want, e)
			}
		}
		if len(x.Nodes) < 40 && (step < 1 || step > 1000) {
			holdsRange(t, s, series, text, now, now+3*second, step, lookback)
		}
	})
}
