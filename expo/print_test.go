package expo

import (
	"math"
	"math/rand"
	"slices"
	"strconv"
	"strings"
	"testing"
	"unicode/utf8"

	"tocsin/api"
	"tocsin/labels"
)

func TestP12_3_Print(t *testing.T) {
	for _, x := range []struct {
		l    []Sample
		m    []Meta
		want string
	}{
		{nil, nil, ""},
		{[]Sample{}, []Meta{}, ""},
		{[]Sample{smp(1, -1, "up")}, nil, "up 1\n"},
		{[]Sample{smp(1, 0, "up")}, nil, "up 1 0\n"},
		{[]Sample{smp(-0.5, 1<<50, "up", "job", "a")}, nil, "up{job=\"a\"} -0.5 1125899906842624\n"},
		{[]Sample{smp(nan, 5, "x"), smp(stale, -1, "x"), smp(math.Inf(1), -1, "x"), smp(math.Inf(-1), 7, "x"), smp(minusZero, -1, "x"), smp(1e21, -1, "x")}, nil, "x NaN 5\nx NaN\nx +Inf\nx -Inf 7\nx -0\nx 1e+21\n"},
		{[]Sample{smp(1, -1, "a:b", "x", "\\\"\n\té{}#", "y", "2")}, nil, "a:b{x=\"\\\\\\\"\\n\té{}#\",y=\"2\"} 1\n"},
		{[]Sample{{Labels: of("A", "1", "__name__", "up", "b", "2"), T: -1}}, nil, "up{A=\"1\",b=\"2\"} 0\n"},
		{nil, []Meta{{"TYPE", "x", "counter"}, {"TYPE", "x", "gauge"}, {"TYPE", "y", "histogram"}, {"TYPE", "y", "summary"}, {"TYPE", ":", "untyped"}}, "# TYPE x counter\n# TYPE x gauge\n# TYPE y histogram\n# TYPE y summary\n# TYPE : untyped\n"},
		{nil, []Meta{{"HELP", "x", ""}, {"HELP", "x", "a text"}, {"HELP", "x", "\\n\n\\\t\"é\r"}, {"HELP", "x", " a "}, {"HELP", "x", "\ta"}, {"HELP", "x", "\n"}, {"HELP", "x", `\`}}, "# HELP x\n# HELP x a text\n# HELP x \\\\n\\n\\\\\t\"é\r\n# HELP x  a \n# HELP x \ta\n# HELP x \\n\n# HELP x \\\\\n"},
		// The lines of m stand first, each list in its order.
		{[]Sample{smp(2, -1, "b"), smp(1, -1, "a"), smp(2, -1, "b")}, []Meta{{"TYPE", "b", "gauge"}, {"HELP", "a", "t"}, {"TYPE", "b", "gauge"}}, "# TYPE b gauge\n# HELP a t\n# TYPE b gauge\nb 2\na 1\nb 2\n"},
	} {
		if s, e, n := Print(x.l, x.m); s != x.want || e != api.OK || n != 0 {
			t.Errorf("Print(%v, %q): %q, %d, %d, not %q", x.l, x.m, s, e, n, x.want)
		}
	}
}

func TestP12_3_PrintRefuses(t *testing.T) {
	long := strings.Repeat("n", 257)
	good, goodMeta := smp(1, -1, "x"), Meta{"HELP", "x", "t"}
	var wide []string
	for i := range 16 {
		wide = append(wide, "l"+strconv.Itoa(10+i), "v")
	}
	for _, x := range []struct {
		m Meta
		e api.Errno
	}{
		{Meta{}, api.ErrName},
		{Meta{"TYPE", "", "gauge"}, api.ErrName},
		{Meta{"TYPE", "1x", "gauge"}, api.ErrName},
		{Meta{"HELP", "x y", "t"}, api.ErrName},
		{Meta{"HELP", "x\n", "t"}, api.ErrName},
		{Meta{"HELP", long, "t"}, api.ErrName},
		{Meta{"NOPE", "-", "\xff"}, api.ErrName}, // the first of its faults
		{Meta{"", "x", "gauge"}, api.ErrOp},
		{Meta{"type", "x", "gauge"}, api.ErrOp},
		{Meta{"TYPE ", "x", "gauge"}, api.ErrOp},
		{Meta{"UNIT", "x", "\xff"}, api.ErrOp},
		{Meta{"TYPE", "x", ""}, api.ErrOp},
		{Meta{"TYPE", "x", "Gauge"}, api.ErrOp},
		{Meta{"TYPE", "x", "gauge "}, api.ErrOp},
		{Meta{"TYPE", "x", "\xff"}, api.ErrOp},
		{Meta{"HELP", "x", "\xff"}, api.ErrUtf},
		{Meta{"HELP", "x", "a\n\xc3"}, api.ErrUtf},
		{Meta{"HELP", "x", "\xed\xa0\x80"}, api.ErrUtf},
	} {
		for n := range 3 {
			m := append(slices.Repeat([]Meta{goodMeta}, n), x.m, Meta{}, x.m)
			for _, l := range [][]Sample{nil, {good}, {{}}, {{Labels: of("a", ""), T: -5}}} {
				if s, e, got := Print(l, m); s != "" || e != x.e || got != n {
					t.Errorf("Print(%v, %q): %q, %d, %d, not %d, %d", l, m, s, e, got, x.e, n)
				}
			}
		}
	}
	for _, x := range []struct {
		s Sample
		e api.Errno
	}{
		{Sample{}, api.ErrName},
		{Sample{Labels: of("a", "1"), T: -1}, api.ErrName},
		{Sample{Labels: of("__name__", "a b"), T: -1}, api.ErrName},
		{Sample{Labels: of("__name__", "1"), T: -1}, api.ErrName},
		{Sample{Labels: of("__name__", "é"), T: -9}, api.ErrName},
		{Sample{Labels: of("__name__", "x", "a", ""), T: -1}, api.ErrLabel},
		{Sample{Labels: of("__name__", "x", "-", "1"), T: -1}, api.ErrName},
		{Sample{Labels: of("__name__", ""), T: -1}, api.ErrLabel},
		{Sample{Labels: of("__name__", long), T: -1}, api.ErrSize},
		{Sample{Labels: of("__name__", "x", "a", "\xff"), T: -1}, api.ErrUtf},
		{Sample{Labels: of("a", "1", "__name__", "x"), T: -9}, api.ErrForm},
		{Sample{Labels: of("__name__", "x", "__name__", "x"), T: -1}, api.ErrForm},
		{Sample{Labels: append(of("__name__", "x"), of(wide...)...), T: -1}, api.ErrFull},
		{smp(1, -2, "x"), api.ErrArg},
		{smp(1, math.MinInt64, "x"), api.ErrArg},
		{smp(1, 1<<50+1, "x"), api.ErrArg},
		{smp(1, math.MaxInt64, "x"), api.ErrArg},
	} {
		for n := range 3 {
			l := append(slices.Repeat([]Sample{good}, n), x.s, Sample{T: -7}, x.s)
			for _, m := range [][]Meta{nil, {goodMeta, goodMeta, goodMeta}} {
				if s, e, got := Print(l, m); s != "" || e != x.e || got != n {
					t.Errorf("Print(%v, %q): %q, %d, %d, not %d, %d", l, m, s, e, got, x.e, n)
				}
			}
		}
	}
	for _, one := range []Sample{smp(1, -1, "x"), smp(1, 0, "x"), smp(1, 1<<50, strings.Repeat("n", 256)), smp(1, 5, "x", wide[2:]...)} {
		if _, e, n := Print([]Sample{one}, nil); e != api.OK || n != 0 {
			t.Error(one, e, n)
		}
	}
}

func TestP12_3_MaxText(t *testing.T) {
	for _, x := range []struct {
		l []Sample
		m []Meta
	}{
		{slices.Repeat([]Sample{smp(1, -1, "x")}, 16384), nil},
		{nil, []Meta{{"HELP", "x", strings.Repeat("t", 65536-len("# HELP x \n"))}}},
		{nil, []Meta{{"HELP", "x", strings.Repeat("\n", (65536-len("# HELP x \n"))/2)}}},
		{[]Sample{smp(1, -1, "x")}, []Meta{{"HELP", "x", strings.Repeat("é", (65536-len("# HELP x \n")-4)/2)}}},
	} {
		s, e, n := Print(x.l, x.m)
		if e != api.OK || n != 0 || len(s) != 65536 {
			t.Error("so many bytes", len(s), e, n)
		}
		checkAgain(t, x.l, x.m)
		if len(x.l) > 0 {
			last := len(x.l) - 1
			more := append(slices.Clone(x.l[:last]), smp(10, -1, "x"))
			if s, e, n := Print(more, x.m); s != "" || e != api.ErrSize || n != 0 {
				t.Error("one more", len(s), e, n)
			}
			// What is at fault is told first.
			if s, e, n := Print(append(more, smp(1, -2, "x")), x.m); s != "" || e != api.ErrArg || n != last+1 {
				t.Error("with a fault", len(s), e, n)
			}
		}
		if len(x.m) > 0 {
			more := []Meta{{"HELP", "x", x.m[0].Text + "t"}}
			if s, e, n := Print(x.l, more); s != "" || e != api.ErrSize || n != 0 {
				t.Error("one more", len(s), e, n)
			}
			if s, e, n := Print([]Sample{smp(1, -1, "x"), {}}, more); s != "" || e != api.ErrName || n != 1 {
				t.Error("with a fault", len(s), e, n)
			}
		}
	}
	many := slices.Repeat([]Sample{smp(1, -1, "x")}, 100000)
	if s, e, n := Print(many, nil); s != "" || e != api.ErrSize || n != 0 {
		t.Error("many more", len(s), e, n)
	}
}

// checkAgain: what Print writes is read as what it was, but for what the document names.
func checkAgain(t *testing.T, l []Sample, m []Meta) {
	t.Helper()
	s, e, _ := Print(l, m)
	if e == api.ErrSize || e == api.ErrUtf {
		return
	}
	if e != api.OK || s != "" && !strings.HasSuffix(s, "\n") {
		t.Fatalf("Print(%v, %q): %d", l, m, e)
	}
	var want []Sample
	for _, one := range l {
		if one.V != one.V {
			one.V = nan
		}
		want = append(want, one)
	}
	var said []Meta
	for _, one := range m {
		if one.Kind == "HELP" {
			one.Text = strings.TrimLeft(one.Text, " \t")
		}
		said = append(said, one)
	}
	gl, gm, e, n := Parse(s)
	if e != api.OK || n != 0 || !sameAll(gl, want) || !slices.Equal(gm, said) {
		t.Fatalf("Parse(%q): %v, %q, %d, %d, not %v, %q", s, gl, gm, e, n, want, said)
	}
}

func anySample(r *rand.Rand) Sample {
	values := []string{"1", "a\"b", "\\", "\n", "}", "{", "é", "a b", "#", ",", "=", "\\n", " ", "\r\t"}
	set := of("__name__", []string{"up", "x", "a:b", "_", "TYPE", "NaN"}[r.Intn(6)])
	for _, name := range []string{"a", "b", "job"} {
		if r.Intn(2) == 0 {
			set = append(set, api.Label{Name: name, Value: values[r.Intn(len(values))]})
		}
	}
	return Sample{Labels: set, V: math.Float64frombits(r.Uint64()), T: []int64{-1, 0, 5, 1 << 50, r.Int63n(1 << 50)}[r.Intn(5)]}
}

func anyMeta(r *rand.Rand) Meta {
	m := Meta{Kind: "TYPE", Name: "x", Text: []string{"counter", "gauge", "histogram", "summary", "untyped"}[r.Intn(5)]}
	if r.Intn(2) == 0 {
		m = Meta{Kind: "HELP", Name: "a:b"}
		for range r.Intn(6) {
			m.Text += []string{"a", " ", "\t", "\\", "n", "\n", "é", "#", "\r", `"`, "\x00"}[r.Intn(11)]
		}
	}
	return m
}

func TestP12_5_ParseOfPrint(t *testing.T) {
	r := rand.New(rand.NewSource(125))
	for range 10000 {
		var l []Sample
		var m []Meta
		for range r.Intn(4) {
			l = append(l, anySample(r))
		}
		for range r.Intn(4) {
			m = append(m, anyMeta(r))
		}
		checkAgain(t, l, m)
	}
}

// modelPrint: by the words of the document.
func modelPrint(l []Sample, m []Meta) (string, api.Errno, int) {
	s := ""
	for i, one := range m {
		isType := slices.Contains([]string{"counter", "gauge", "histogram", "summary", "untyped"}, one.Text)
		switch {
		case !labels.Metric(one.Name):
			return "", api.ErrName, i
		case one.Kind != "TYPE" && one.Kind != "HELP", one.Kind == "TYPE" && !isType:
			return "", api.ErrOp, i
		case !utf8.ValidString(one.Text):
			return "", api.ErrUtf, i
		}
		parts := []string{"#", one.Kind, one.Name}
		if one.Text != "" {
			parts = append(parts, strings.NewReplacer(`\`, `\\`, "\n", `\n`).Replace(one.Text))
		}
		s += strings.Join(parts, " ") + "\n"
	}
	for i, one := range l {
		if e, _ := labels.Right(one.Labels); e != api.OK {
			return "", e, i
		}
		if !labels.Metric(labels.Get(one.Labels, "__name__")) {
			return "", api.ErrName, i
		}
		if one.T < -1 || one.T > 1<<50 {
			return "", api.ErrArg, i
		}
		text, _ := labels.Print(one.Labels)
		s += text + " " + modelText(one.V)
		if one.T != -1 {
			s += " " + strconv.FormatInt(one.T, 10)
		}
		s += "\n"
	}
	if len(s) > 65536 {
		return "", api.ErrSize, 0
	}
	return s, api.OK, 0
}

func TestP12_3_AsTheModel(t *testing.T) {
	r := rand.New(rand.NewSource(124))
	for range 10000 {
		var l []Sample
		var m []Meta
		for range r.Intn(4) {
			one := anySample(r)
			switch r.Intn(12) {
			case 0:
				one.T = []int64{-2, 1<<50 + 1}[r.Intn(2)]
			case 1:
				one.Labels = one.Labels[1:]
			case 2:
				one.Labels[r.Intn(len(one.Labels))].Value = []string{"", "\xff", "1"}[r.Intn(3)]
			}
			l = append(l, one)
		}
		for range r.Intn(4) {
			one := anyMeta(r)
			switch r.Intn(15) {
			case 0:
				one.Name = ""
			case 1:
				one.Kind = "UNIT"
			case 2:
				one.Text += "\xff"
			}
			m = append(m, one)
		}
		want, e, n := modelPrint(l, m)
		if s, ge, gn := Print(l, m); s != want || ge != e || gn != n {
			t.Fatalf("Print(%v, %q): %q, %d, %d, not %q, %d, %d", l, m, s, ge, gn, want, e, n)
		}
	}
}

// Nothing that is handed in is changed.
func TestP12_3_Memory(t *testing.T) {
	l := []Sample{smp(2, -1, "b", "x", "1"), smp(stale, 5, "a")}
	m := []Meta{{"HELP", "b", " t\n"}, {"TYPE", "a", "gauge"}}
	first, _, _ := Print(l, m)
	if !sameAll(l, []Sample{smp(2, -1, "b", "x", "1"), smp(stale, 5, "a")}) || !slices.Equal(m, []Meta{{"HELP", "b", " t\n"}, {"TYPE", "a", "gauge"}}) {
		t.Error("changed", l, m)
	}
	if again, _, _ := Print(l, m); again != first {
		t.Error("another text", again)
	}
}
