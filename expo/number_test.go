package expo

import (
	"math"
	"math/rand"
	"strconv"
	"strings"
	"testing"

	"tocsin/api"
)

func checkFloat(t *testing.T, s string) {
	t.Helper()
	v, e := modelFloat(s)
	if got, ge := Float(s); math.Float64bits(got) != math.Float64bits(v) || ge != e {
		t.Errorf("Float(%q): %v, %d, not %v, %d", s, got, ge, v, e)
	}
}

func TestP12_1_FloatForms(t *testing.T) {
	for s, want := range map[string]float64{
		"+Inf": math.Inf(1), "-Inf": math.Inf(-1), "Inf": math.Inf(1), "NaN": nan,
		"0": 0, "-0": minusZero, "+0": 0, "-0.0e5": minusZero, "0e9999": 0, "-.0": minusZero, "00": 0,
		"1": 1, "+1": 1, "-1": -1, "1.": 1, "1.5": 1.5, ".5": 0.5, "-.5": -0.5, "+5.": 5, "007": 7, "00.700": 0.7,
		"1e1": 10, "1E1": 10, "1e+1": 10, "1e-1": 0.1, ".5e1": 5, "5.e-1": 0.5, "1e01": 10, "1e0001": 10, "1e-0001": 0.1,
		"1e999": math.Inf(1), "-1e999": math.Inf(-1), "1e-999": 0, "-1e-999": minusZero, "1e9999": math.Inf(1), "1e-9999": 0,
		"1027": 1027, "3.141592653589793": math.Pi,
	} {
		v, e := Float(s)
		if e != api.OK || math.Float64bits(v) != math.Float64bits(want) {
			t.Errorf("Float(%q): %v, %d, not %v", s, v, e, want)
		}
		checkFloat(t, s)
	}
}

func TestP12_1_FloatOfNoValue(t *testing.T) {
	for _, s := range []string{
		"", " ", "+", "-", ".", "+.", "e", "e1", "E1", ".e1", "+e1", "1e", "1e+", "1e-", "1e.", "1e1.", "1e1.5", "1e12345", "1e00001", "1e+12345", "0e00000",
		"--1", "+-1", "-+1", "1-", "1+1", "1..", "1.2.3", "..5", "1e1e1", "1ee1", "1e+-1",
		" 1", "1 ", "1\t", "\n1", "1\n", "1 0", "1_000", "1,5", "0x1", "0X1p1", "1p1", "1f", "0b1", "1i",
		"inf", "INF", "Infinity", "+inf", "++Inf", "+ Inf", "-NaN", "+NaN", "nan", "NAN", "Nan", "NaN ", "Inf1", "1Inf", "In",
		"é", "1é", "١", "１", "\xff", "1\xff", "1\x00", "1.\x805",
	} {
		if v, e := Float(s); v != 0 || math.Signbit(v) || e != api.ErrForm {
			t.Errorf("Float(%q): %v, %d", s, v, e)
		}
		checkFloat(t, s)
	}
}

func TestP12_1_FloatOfManyBytes(t *testing.T) {
	for _, s := range []string{
		strings.Repeat("1", 64),
		strings.Repeat("0", 64),
		strings.Repeat("0", 63) + "7",
		"-" + strings.Repeat("9", 63),
		"." + strings.Repeat("3", 63),
		strings.Repeat("9", 60) + "e123",
		strings.Repeat("9", 58) + "e-9999",
		"0." + strings.Repeat("0", 61) + "1",
	} {
		if len(s) != 64 {
			t.Fatal(s)
		}
		checkFloat(t, s)
		if _, e := Float(s); e != api.OK {
			t.Error("64 bytes", s, e)
		}
		for _, long := range []string{s + "0", "0" + s, "+" + s, s + strings.Repeat("1", 1000)} {
			if v, e := Float(long); v != 0 || e != api.ErrForm {
				t.Error("more", long, v, e)
			}
		}
	}
}

func TestP12_1_FloatAtTheEnds(t *testing.T) {
	for s, want := range map[string]uint64{
		"1.7976931348623157e308":  0x7fefffffffffffff, // the greatest
		"1.7976931348623158e308":  0x7fefffffffffffff,
		"1.79769313486231580e308": 0x7fefffffffffffff,
		"179769313486231580793728971405303415079934132710037826936173e249": 0x7fefffffffffffff, // right below the half to the next
		"179769313486231580793728971405303415079934132710037826936174e249": 0x7ff0000000000000, // right above it
		"1.7976931348623159e308":  0x7ff0000000000000,
		"1.8e308":                 0x7ff0000000000000,
		"1e309":                   0x7ff0000000000000,
		"-1.8e308":                0xfff0000000000000,
		"5e-324":                  1, // the least
		"4.9e-324":                1,
		"3e-324":                  1,
		"2.5e-324":                1,
		"2.4703282292062328e-324": 1, // above the half of it
		"2.4703282292062327e-324": 0, // below it
		"2e-324":                  0,
		"1e-324":                  0,
		"1e-325":                  0,
		"-1e-325":                 0x8000000000000000,
		"7.4e-324":                1,
		"7.5e-324":                2,
		"2.2250738585072014e-308": 0x0010000000000000, // the least with all of its bits
		"2.2250738585072011e-308": 0x000fffffffffffff,
		// Halves between two floats go to the even one.
		"9007199254740993": 0x4340000000000000,
		"9007199254740993.0000000000000000000000000001": 0x4340000000000001,
		"9007199254740992.9999999999999999999999999999": 0x4340000000000000,
		"9007199254740995": 0x4340000000000002,
		"9007199254740994.9999999999999999999999999999":             0x4340000000000001,
		"1.00000000000000011102230246251565404236316680":            0x3ff0000000000000,
		"1.000000000000000111022302462515654042363166809082031250":  0x3ff0000000000000,
		"1.0000000000000001110223024625156540423631668090820312501": 0x3ff0000000000001,
		"1.000000000000000333066907387546962127089500427246093750":  0x3ff0000000000002,
		"1.0000000000000003330669073875469621270895004272460937499": 0x3ff0000000000001,
	} {
		v, e := Float(s)
		if e != api.OK || math.Float64bits(v) != want {
			t.Errorf("Float(%q): %x, %d, not %x", s, math.Float64bits(v), e, want)
		}
		checkFloat(t, s)
	}
}

func TestP12_1_FloatAsTheModel(t *testing.T) {
	r := rand.New(rand.NewSource(121))
	pieces := []string{"", "+", "-", "0", "1", "9", "5", "12", "999999", ".", "e", "E", "e-", "e+3", "e-320", "Inf", "NaN", " ", "_", "\xff"}
	for range 50000 {
		var b strings.Builder
		for range 1 + r.Intn(6) {
			b.WriteString(pieces[r.Intn(len(pieces))])
		}
		checkFloat(t, b.String())
	}
	for range 50000 {
		digits := strconv.FormatUint(r.Uint64(), 10) + strconv.FormatUint(r.Uint64(), 10)
		point := r.Intn(len(digits) + 1)
		checkFloat(t, digits[:point]+"."+digits[point:]+"e"+strconv.Itoa(r.Intn(700)-370))
	}
}

func TestP12_1_Text(t *testing.T) {
	for _, x := range []struct {
		v    float64
		want string
	}{
		{0, "0"}, {minusZero, "-0"},
		{nan, "NaN"}, {stale, "NaN"}, {otherNaN, "NaN"}, {math.Inf(1), "+Inf"}, {math.Inf(-1), "-Inf"},
		{1, "1"}, {-1, "-1"}, {10, "10"}, {1027, "1027"}, {1.5, "1.5"}, {0.1, "0.1"}, {-0.25, "-0.25"}, {100, "100"}, {120.5, "120.5"},
		{1e-5, "0.00001"}, {1e-6, "0.000001"}, {1.5e-6, "0.0000015"}, {9.999999e-6, "0.000009999999"},
		{1e-7, "1e-07"}, {9.9e-7, "9.9e-07"}, {-1.25e-7, "-1.25e-07"}, {1e-10, "1e-10"}, {1e-99, "1e-99"}, {1e-100, "1e-100"},
		{1e20, "100000000000000000000"}, {1.5e20, "150000000000000000000"}, {-9e20, "-900000000000000000000"}, {math.Nextafter(1e21, 0), "999999999999999900000"},
		{1e21, "1e+21"}, {1.5e21, "1.5e+21"}, {-1e21, "-1e+21"}, {1e99, "1e+99"}, {1e100, "1e+100"},
		{math.MaxFloat64, "1.7976931348623157e+308"}, {-math.MaxFloat64, "-1.7976931348623157e+308"},
		{math.SmallestNonzeroFloat64, "5e-324"}, {-math.SmallestNonzeroFloat64, "-5e-324"},
		{2.2250738585072014e-308, "2.2250738585072014e-308"}, {2.225073858507201e-308, "2.225073858507201e-308"},
		{0.30000000000000004, "0.30000000000000004"}, {1.0 / 3, "0.3333333333333333"}, {math.Pi, "3.141592653589793"},
		{9007199254740993, "9007199254740992"}, {123456789012345680, "123456789012345680"}, {5e-324 * 3, "1.5e-323"},
		{math.Float64frombits(0x3d30000000000000), "5.684341886080802e-14"},
		{1<<49 + 0.25, "562949953421312.2"}, {1<<49 + 0.75, "562949953421312.8"},
	} {
		v := x.v
		if s := Text(v); s != x.want || s != modelText(v) {
			t.Errorf("Text(%b): %s, not %s", v, s, x.want)
		}
	}
}

func checkText(t *testing.T, v float64) {
	t.Helper()
	s := Text(v)
	if s != modelText(v) {
		t.Fatalf("Text(%b): %s, not %s", v, s, modelText(v))
	}
	want := math.Float64bits(v)
	if v != v {
		want = 0x7ff8000000000001
	}
	if again, e := Float(s); e != api.OK || math.Float64bits(again) != want {
		t.Fatalf("Float(%s): %b, %d, not %b", s, again, e, v)
	}
}

func TestP12_5_FloatOfText(t *testing.T) {
	for _, v := range []float64{0, minusZero, nan, stale, otherNaN, math.Inf(1), math.Inf(-1), math.MaxFloat64, -math.MaxFloat64, math.SmallestNonzeroFloat64} {
		checkText(t, v)
	}
	for ten := -324; ten <= 308; ten++ {
		v, _ := strconv.ParseFloat("1e"+strconv.Itoa(ten), 64)
		for _, x := range []float64{v, -v, math.Nextafter(v, 0), math.Nextafter(v, math.MaxFloat64)} {
			checkText(t, x)
		}
	}
	for power := -1074; power <= 1023; power++ {
		checkText(t, math.Ldexp(1, power))
	}
	r := rand.New(rand.NewSource(125))
	for range 30000 {
		checkText(t, math.Float64frombits(r.Uint64()))
		checkText(t, r.NormFloat64()*math.Pow(10, float64(r.Intn(40)-12)))
		checkText(t, float64(r.Intn(100000))/100)
	}
}

func FuzzFloat(f *testing.F) {
	f.Add("1.5e-3", 1.5)
	f.Add("+Inf", math.Inf(-1))
	f.Fuzz(func(t *testing.T, s string, v float64) {
		checkFloat(t, s)
		checkText(t, v)
	})
}
