package expo

import (
	"math"
	"regexp"
	"slices"
	"strconv"
	"strings"
	"testing"

	"tocsin/api"
	"tocsin/labels"
)

var (
	nan       = math.Float64frombits(0x7ff8000000000001)
	stale     = math.Float64frombits(0x7ff0000000000002)
	otherNaN  = math.Float64frombits(0xfff8000000000007)
	minusZero = math.Copysign(0, -1)
)

// of: labels of names and values in turn.
func of(texts ...string) []api.Label {
	var l []api.Label
	for i := 0; i+1 < len(texts); i += 2 {
		l = append(l, api.Label{Name: texts[i], Value: texts[i+1]})
	}
	return l
}

// smp: a sample of a metric's name, other labels behind it.
func smp(v float64, t int64, name string, texts ...string) Sample {
	return Sample{Labels: append(of("__name__", name), of(texts...)...), V: v, T: t}
}

func same(a, b Sample) bool {
	return slices.Equal(a.Labels, b.Labels) && math.Float64bits(a.V) == math.Float64bits(b.V) && a.T == b.T
}

func sameAll(a, b []Sample) bool { return slices.EqualFunc(a, b, same) }

func zero(s Sample) bool { return s.Labels == nil && math.Float64bits(s.V) == 0 && s.T == 0 }

var numberForm = regexp.MustCompile(`^[+-]?([0-9]+\.?[0-9]*|\.[0-9]+)([eE][+-]?[0-9]{1,4})?$`)

// modelFloat: by the words of the document, read by the library.
func modelFloat(s string) (float64, api.Errno) {
	switch s {
	case "+Inf", "Inf":
		return math.Inf(1), api.OK
	case "-Inf":
		return math.Inf(-1), api.OK
	case "NaN":
		return nan, api.OK
	}
	if len(s) > 64 || !numberForm.MatchString(s) {
		return 0, api.ErrForm
	}
	v, _ := strconv.ParseFloat(s, 64)
	return v, api.OK
}

// modelText: by the words of the document, written by the library.
func modelText(v float64) string {
	switch {
	case v != v:
		return "NaN"
	case v > math.MaxFloat64:
		return "+Inf"
	case v < -math.MaxFloat64:
		return "-Inf"
	}
	far := strconv.FormatFloat(v, 'e', -1, 64)
	_, exponent, _ := strings.Cut(far, "e")
	if n, _ := strconv.Atoi(exponent); n < -6 || n > 20 {
		return far
	}
	return strconv.FormatFloat(v, 'f', -1, 64)
}

const modelName = `[a-zA-Z_:][a-zA-Z0-9_:]*`

var (
	emptyForm  = regexp.MustCompile(`^[ \t]*$`)
	typeForm   = regexp.MustCompile(`^[ \t]*#[ \t]+TYPE[ \t]+(` + modelName + `)[ \t]+(counter|gauge|histogram|summary|untyped)[ \t]*$`)
	helpForm   = regexp.MustCompile(`(?s)^[ \t]*#[ \t]+HELP[ \t]+(` + modelName + `)(?:[ \t]+(.*))?$`)
	badForm    = regexp.MustCompile(`(?s)^[ \t]*#[ \t]+(TYPE|HELP)([ \t].*)?$`)
	remarkForm = regexp.MustCompile(`(?s)^[ \t]*#`)
	sampleForm = regexp.MustCompile(`(?s)^[ \t]*(` + modelName + `)(.*)$`)
	bracesForm = regexp.MustCompile(`(?s)^[ \t]*(\{(?:[^"}]|"(?:[^"\\]|\\.)*")*\})(.*)$`)
	valueForm  = regexp.MustCompile(`^[ \t]*([^ \t]+)(?:[ \t]+([0-9]{1,16}))?[ \t]*$`)
	nameLabel  = regexp.MustCompile(`[{,][ \t]*__name__[ \t]*=`)
)

// modelLine: by the words of the document: a sample, what is said of a metric, or neither.
func modelLine(s string) (*Sample, *Meta, api.Errno) {
	if strings.Contains(s, "\n") {
		return nil, nil, api.ErrLine
	}
	if emptyForm.MatchString(s) {
		return nil, nil, api.OK
	}
	if m := typeForm.FindStringSubmatch(s); m != nil && len(m[1]) <= 256 {
		return nil, &Meta{Kind: "TYPE", Name: m[1], Text: m[2]}, api.OK
	}
	if m := helpForm.FindStringSubmatch(s); m != nil && len(m[1]) <= 256 {
		text := strings.NewReplacer(`\\`, `\`, `\n`, "\n").Replace(m[2])
		return nil, &Meta{Kind: "HELP", Name: m[1], Text: text}, api.OK
	}
	if badForm.MatchString(s) {
		return nil, nil, api.ErrLine
	}
	if remarkForm.MatchString(s) {
		return nil, nil, api.OK
	}
	if one := modelSample(s); one != nil {
		return one, nil, api.OK
	}
	return nil, nil, api.ErrLine
}

func modelSample(s string) *Sample {
	m := sampleForm.FindStringSubmatch(s)
	if m == nil || len(m[1]) > 256 {
		return nil
	}
	out := &Sample{Labels: of("__name__", m[1]), T: -1}
	rest := m[2]
	if b := bracesForm.FindStringSubmatch(rest); b != nil {
		set, e, _ := labels.Parse(b[1])
		if e != api.OK {
			return nil
		}
		// Values are left out: what they say is of no matter here.
		if nameLabel.MatchString(regexp.MustCompile(`(?s)"(?:[^"\\]|\\.)*"`).ReplaceAllString(b[1], `""`)) {
			return nil
		}
		out.Labels, e = labels.With(set, "__name__", m[1])
		if e != api.OK {
			return nil
		}
		rest = b[2]
	}
	v := valueForm.FindStringSubmatch(rest)
	if v == nil {
		return nil
	}
	var e api.Errno
	if out.V, e = modelFloat(v[1]); e != api.OK {
		return nil
	}
	if v[2] != "" {
		out.T, _ = strconv.ParseInt(v[2], 10, 64)
		if out.T > 1<<50 {
			return nil
		}
	}
	return out
}

// checkLine: Line and Parse are as the model.
func checkLine(t *testing.T, s string) {
	t.Helper()
	one, meta, e := modelLine(s)
	got, is, ge := Line(s)
	if ge != e || is != (one != nil) || one != nil && !same(got, *one) || one == nil && !zero(got) {
		t.Fatalf("Line(%q): %v, %v, %d, not %v, %d", s, got, is, ge, one, e)
	}
	if strings.Contains(s, "\n") || len(s) > 65536 {
		return
	}
	var l []Sample
	var m []Meta
	if one != nil {
		l = append(l, *one)
	}
	if meta != nil {
		m = append(m, *meta)
	}
	gl, gm, ge, n := Parse(s)
	if ge != e || n != 0 || !sameAll(gl, l) || !slices.Equal(gm, m) {
		t.Fatalf("Parse(%q): %v, %v, %d, %d, not %v, %v, %d", s, gl, gm, ge, n, l, m, e)
	}
}

// modelParse: line by line.
func modelParse(s string) ([]Sample, []Meta, api.Errno, int) {
	if len(s) > 65536 {
		return nil, nil, api.ErrSize, 0
	}
	var l []Sample
	var m []Meta
	lines := strings.Split(s, "\n")
	if lines[len(lines)-1] == "" {
		lines = lines[:len(lines)-1]
	}
	for i, line := range lines {
		one, meta, e := modelLine(line)
		if e != api.OK {
			return nil, nil, e, i
		}
		if one != nil {
			l = append(l, *one)
		}
		if meta != nil {
			m = append(m, *meta)
		}
	}
	return l, m, api.OK, 0
}

func checkParse(t *testing.T, s string) {
	t.Helper()
	l, m, e, n := modelParse(s)
	gl, gm, ge, gn := Parse(s)
	if ge != e || gn != n || !sameAll(gl, l) || !slices.Equal(gm, m) {
		t.Fatalf("Parse(%q): %v, %v, %d, %d, not %v, %v, %d, %d", s, gl, gm, ge, gn, l, m, e, n)
	}
}
