package block

import (
	"bytes"
	"fmt"
	"math"
	"math/rand"
	"slices"
	"testing"

	"tocsin/api"
)

func TestP10_4_Merge(t *testing.T) {
	one := []api.Series{series1([]api.Sample{at(5, 1), at(6, 2), at(9, 3)}, "a", "1"), series1(every(3), "b", "1")}
	two := []api.Series{series1([]api.Sample{at(4, 40), at(6, 60), at(10, 100)}, "a", "1"), series1(every(2), "c", "1")}
	three := []api.Series{series1([]api.Sample{at(6, 600), at(9, 900)}, "a", "1"), series1([]api.Sample{at(10, stale)}, "b", "1")}
	x, y, z := opened(t, one), opened(t, two), opened(t, three)
	for _, c := range []struct {
		l    []*Block
		want []api.Series
	}{
		{nil, nil},
		{[]*Block{x}, one},
		{[]*Block{opened(t, nil)}, nil},
		{[]*Block{opened(t, nil), x, opened(t, nil)}, one},
		{[]*Block{x, x, x}, one},
		{[]*Block{x, y}, []api.Series{series1([]api.Sample{at(4, 40), at(5, 1), at(6, 60), at(9, 3), at(10, 100)}, "a", "1"), one[1], two[1]}},
		{[]*Block{y, x}, []api.Series{series1([]api.Sample{at(4, 40), at(5, 1), at(6, 2), at(9, 3), at(10, 100)}, "a", "1"), one[1], two[1]}},
		{[]*Block{x, y, z}, []api.Series{series1([]api.Sample{at(4, 40), at(5, 1), at(6, 600), at(9, 900), at(10, 100)}, "a", "1"), series1([]api.Sample{at(10, stale), at(20, 1), at(30, 2)}, "b", "1"), two[1]}},
		{[]*Block{z, y, x}, []api.Series{series1([]api.Sample{at(4, 40), at(5, 1), at(6, 2), at(9, 3), at(10, 100)}, "a", "1"), one[1], two[1]}},
	} {
		b, e := Merge(c.l...)
		if e != api.OK || !bytes.Equal(b, modelBytes(c.want)) {
			t.Error(len(c.l), e)
		}
		if got := slices.Collect(mustOpen(t, b).All()); !same(got, sorted(c.want)) {
			t.Error(got)
		}
	}
	if b, e := Merge(); e != api.OK || len(b) != 17 {
		t.Error("of none", b, e)
	}
}

func TestP10_4_MergeFull(t *testing.T) {
	a, b := opened(t, numbered(500, "a")), opened(t, numbered(500, "b"))
	c, one := opened(t, numbered(501, "b")), opened(t, numbered(1, "c"))
	for _, l := range [][]*Block{{a, b}, {a, b, a, b}, {b, c}, {opened(t, numbered(1000, "a")), a}} {
		if x, e := Merge(l...); e != api.OK || x == nil {
			t.Error("just so many", e)
		}
	}
	big := opened(t, fileOf(t, 1<<20))
	for _, l := range [][]*Block{{a, c}, {c, a}, {a, b, one}, {one, a, a, b}, {opened(t, numbered(1000, "a")), big}, {big, opened(t, numbered(1000, "a"))}} {
		if x, e := Merge(l...); x != nil || e != api.ErrFull {
			t.Error("too many", e)
		}
	}
}

func TestP10_4_MergeSize(t *testing.T) {
	// A frame that is too long.
	later := func(l []api.Sample) []api.Sample {
		var out []api.Sample
		for _, s := range l {
			out = append(out, at(s.T+1<<40, s.V))
		}
		return out
	}
	a := opened(t, []api.Series{series1(noise(4000, 1), "a", "1")})
	b := opened(t, []api.Series{series1(later(noise(4000, 2)), "a", "1")})
	c := opened(t, []api.Series{series1(later(noise(1000, 2)), "a", "1")})
	d := opened(t, []api.Series{series1(later(noise(4000, 2)), "a", "2")})
	if x, e := Merge(a, b); x != nil || e != api.ErrSize {
		t.Error("a frame", e)
	}
	for _, l := range [][]*Block{{a, c}, {a, d}, {c, a, d}} {
		if _, e := Merge(l...); e != api.OK {
			t.Error("fits", e)
		}
	}
	// Bytes that are too many.
	full := opened(t, fileOf(t, 1<<20))
	if x, e := Merge(full, c); x != nil || e != api.ErrSize {
		t.Error("the bytes", e)
	}
	if x, e := Merge(full, full); e != api.OK || !bytes.Equal(x, full.Bytes()) {
		t.Error("just so many", e)
	}
}

func TestP10_4_Trim(t *testing.T) {
	l := shop()
	x := opened(t, l)
	for _, from := range []int64{math.MinInt64, -1, 0, 1, 5, 6, 9, 10, 11, 15, 20, 31, 70, 71, 600, 1200, 1201, 1210, 1211, 2400, 2401, 1 << 50, 1<<50 + 1, math.MaxInt64} {
		want := modelTrim(l, from)
		b, e := Trim(x, from)
		if e != api.OK || !bytes.Equal(b, modelBytes(want)) {
			t.Fatal(from, e)
		}
		if y := mustOpen(t, b); !same(slices.Collect(y.All()), sorted(want)) {
			t.Error(from)
		}
	}
	if b, e := Trim(x, 1<<50+1); e != api.OK || !bytes.Equal(b, mustBuild(t, nil)) {
		t.Error("above all", e)
	}
	if b, e := Trim(x, 0); e != api.OK || !bytes.Equal(b, x.Bytes()) {
		t.Error("below all", e)
	}
	if b, e := Trim(opened(t, nil), 5); e != api.OK || len(b) != 17 {
		t.Error("of none", b, e)
	}
}

// steps answers samples whose values change where a chunk begins (in the first of so many chunks): with one sample less ahead of them they need more bits.
func steps(chunks, changing int) []api.Sample {
	r := rand.New(rand.NewSource(4))
	var l []api.Sample
	v := 1.0
	for i := range 120 * chunks {
		if i%120 == 0 && i/120 < changing {
			v = math.Float64frombits(r.Uint64())
		}
		l = append(l, at(int64(1000*i), v))
	}
	return l
}

func TestP10_4_TrimSize(t *testing.T) {
	size := func(l []api.Sample) int { return len(modelContent(api.Series{Samples: l})) }
	l := steps(1200, 1200)
	if size(l) > 60000 || size(l[1:]) < 65600 {
		t.Fatal("it does not grow so", size(l), size(l[1:]))
	}
	x := opened(t, []api.Series{series1(l, "a", "1")})
	for from, want := range map[int64]api.Errno{-5: api.OK, 0: api.OK, 1: api.ErrSize, 1000: api.ErrSize, 120000: api.OK, 121000: api.ErrSize, 1 << 50: api.OK} {
		b, e := Trim(x, from)
		if e != want || (b == nil) != (e != api.OK) {
			t.Error("a frame", from, e)
		}
	}
	// Each frame is short enough, and the bytes are too many.
	l = steps(1300, 150)
	var all []api.Series
	for i := range 17 {
		all = append(all, series1(l, "a", fmt.Sprint(i)))
	}
	more := modelTrim(all, 1)
	if size(l[1:]) > 65000 || len(modelBytes(all)) > 1<<20 || len(modelBytes(more)) <= 1<<20 {
		t.Fatal("it does not grow so", size(l), size(l[1:]), len(modelBytes(all)), len(modelBytes(more)))
	}
	x = opened(t, all)
	if b, e := Trim(x, 1); b != nil || e != api.ErrSize {
		t.Error("the bytes", e)
	}
	if b, e := Trim(x, 0); e != api.OK || !bytes.Equal(b, x.Bytes()) {
		t.Error("the bytes", e)
	}
}

// some answers a few series with a few samples, of labels and times that come again.
func some(r *rand.Rand) []api.Series {
	var l []api.Series
	for _, name := range []string{"a", "b", "c", "d"} {
		if r.Intn(3) == 0 {
			continue
		}
		s := series1(nil, name, "1")
		for t := range int64(1 + r.Intn(300)) {
			if r.Intn(2) == 0 {
				s.Samples = append(s.Samples, at(t, float64(r.Intn(5))))
			}
		}
		if len(s.Samples) > 0 {
			l = append(l, s)
		}
	}
	return l
}

func TestP10_9_Merging(t *testing.T) {
	r := rand.New(rand.NewSource(9))
	for range 200 {
		a, b, c := some(r), some(r), some(r)
		x, y, z := opened(t, a), opened(t, b), opened(t, c)
		all := must(Merge(x, y, z))
		if !bytes.Equal(all, modelBytes(modelMerge(a, b, c))) {
			t.Fatal("the model's is another")
		}
		if !bytes.Equal(must(Merge(x)), x.Bytes()) || !bytes.Equal(must(Merge(x, x)), x.Bytes()) {
			t.Fatal("of one")
		}
		if !bytes.Equal(must(Merge(mustOpen(t, must(Merge(x, y))), z)), all) || !bytes.Equal(must(Merge(x, mustOpen(t, must(Merge(y, z))))), all) {
			t.Fatal("however they are put together")
		}
		for s := range mustOpen(t, all).All() {
			for _, one := range s.Samples {
				want := math.NaN()
				for _, l := range [][]api.Series{a, b, c} {
					for _, other := range l {
						for _, o := range other.Samples {
							if slices.Equal(other.Labels, s.Labels) && o.T == one.T {
								want = o.V
							}
						}
					}
				}
				if want != one.V {
					t.Fatal("what the last one tells", s.Labels, one, want)
				}
			}
		}
	}
}

func TestP10_10_TrimTwice(t *testing.T) {
	r := rand.New(rand.NewSource(10))
	for range 100 {
		x := opened(t, some(r))
		from, then := int64(r.Intn(320)-10), int64(r.Intn(320)-10)
		twice := must(Trim(mustOpen(t, must(Trim(x, from))), then))
		if !bytes.Equal(twice, must(Trim(x, max(from, then)))) {
			t.Fatal(from, then)
		}
		if again := must(Trim(mustOpen(t, twice), then)); !bytes.Equal(again, twice) {
			t.Fatal("the same time twice")
		}
	}
}
