package decimal

import (
	"math"
	"math/rand"
	"strconv"
	"strings"
	"testing"
)

// textModel: what the library tells, with or without an exponent.
func textModel(v float64) string {
	s := strconv.FormatFloat(v, 'e', -1, 64)
	_, exponent, _ := strings.Cut(s, "e")
	if n, _ := strconv.Atoi(exponent); n >= -6 && n <= 20 {
		return strconv.FormatFloat(v, 'f', -1, 64)
	}
	return s
}

func checkText(t *testing.T, v float64) {
	t.Helper()
	s := Text(v)
	if want := textModel(v); s != want {
		t.Fatalf("Text(%b): %s, not %s", v, s, want)
	}
	if again := Read(strings.TrimPrefix(s, "-")); math.Float64bits(again) != math.Float64bits(math.Abs(v)) {
		t.Fatalf("Read(%s): %b, not %b", s, again, v)
	}
}

func TestText(t *testing.T) {
	for _, v := range edges() {
		checkText(t, v)
		checkText(t, -v)
	}
	r := rand.New(rand.NewSource(12))
	for range 20000 {
		if v := math.Float64frombits(r.Uint64()); !math.IsNaN(v) && !math.IsInf(v, 0) {
			checkText(t, v)
		}
		checkText(t, r.NormFloat64()*math.Pow(10, float64(r.Intn(60)-30)))
	}
	for v, want := range map[float64]string{math.Inf(1): "+Inf", math.Inf(-1): "-Inf", 1e20: "100000000000000000000", 1e21: "1e+21", 1e-6: "0.000001", 1e-7: "1e-07"} {
		if s := Text(v); s != want {
			t.Error(v, s)
		}
	}
	for _, bits := range []uint64{0x7ff8000000000001, 0x7ff0000000000002, math.MaxUint64} {
		if s := Text(math.Float64frombits(bits)); s != "NaN" {
			t.Error(s)
		}
	}
}

func TestRead(t *testing.T) {
	for s, want := range map[string]float64{
		"0": 0, "1": 1, "1.": 1, ".5": 0.5, "1.5": 1.5, "1e3": 1000, "1E+3": 1000, "15e-1": 1.5, "1.25E2": 125, "00012": 12, "0e99999999999999999999": 0,
		"1e99999999999999999999": math.Inf(1), "1e-99999999999999999999": 0, "1e309": math.Inf(1), "1e00000000000000000000000000000003": 1000, "0." + strings.Repeat("0", 400) + "1e401": 1,
	} {
		if v := Read(s); v != want {
			t.Error(s, v)
		}
	}
}
