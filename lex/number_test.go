package lex

import (
	"math"
	"math/big"
	"math/rand"
	"strconv"
	"strings"
	"testing"

	"tocsin/api"
)

func checkNumber(t *testing.T, s string) {
	t.Helper()
	v, e := Number(s)
	want, we := modelNumber(s)
	if e != we || !sameBits(v, want) {
		t.Fatalf("Number(%.200q): %v, %d, not %v, %d", s, v, e, want, we)
	}
}

func checkSpan(t *testing.T, s string) {
	t.Helper()
	n, e := Span(s)
	want, we := modelSpan(s)
	if e != we || n != want {
		t.Fatalf("Span(%.200q): %d, %d, not %d, %d", s, n, e, want, we)
	}
}

func checkQuote(t *testing.T, s string) {
	t.Helper()
	q, e := Quote(s)
	want, we := modelQuote(s)
	if e != we || q != want {
		t.Fatalf("Quote(%.200q): %.200q, %d, not %.200q, %d", s, q, e, want, we)
	}
	if e != api.OK || len(q) > api.MaxText {
		return
	}
	l, e, at := Tokens(q)
	if e != api.OK || at != 0 || len(l) != 2 || l[0] != token(api.TString, s, 0) {
		t.Fatalf("Tokens(%.200q): %v, %d, %d", q, l, e, at)
	}
}

func TestP13_2_Number(t *testing.T) {
	for s, want := range map[string]float64{
		"0": 0, "1": 1, "007": 7, "1.": 1, "1.5": 1.5, ".5": 0.5, "0.5": 0.5, "1e3": 1000, "1E3": 1000, "1e+3": 1000, "1e-3": 0.001, "1.5e3": 1500, "1.e2": 100, ".5e1": 5, "1e0": 1, "1e000000000000000000000001": 10, "00000.1": 0.1,
		"0x1F": 31, "0X1f": 31, "0x0": 0, "0x00ff": 255, "0xABCDEF": 11259375, "0xabcdef": 11259375, "0x10": 16, "0xe1": 225, "0x1e5": 485,
		"9007199254740993": 9007199254740992, "9007199254740995": 9007199254740996, "9007199254740993.0000000000000000000000000001": 9007199254740994,
		"0x20000000000001": 9007199254740992, "0x20000000000003": 9007199254740996, "0x200000000000010000000000000000000": 0x20000000000000 * math.Pow(16, 19), "0x200000000000010000000000000000001": 0x20000000000002 * math.Pow(16, 19),
		"1e308": 1e308, "1.7976931348623157e308": math.MaxFloat64, "1.7976931348623158e308": math.MaxFloat64, "1.7976931348623159e308": math.Inf(1), "1e309": math.Inf(1), "1e999999999999999999999999": math.Inf(1),
		"5e-324": 5e-324, "3e-324": 5e-324, "2e-324": 0, "1e-400": 0, "1e-99999999999999999999": 0, "0e999999999999999999999999": 0, "0.0e-5": 0, "2.2250738585072014e-308": 2.2250738585072014e-308, "2.2250738585072011e-308": 2.225073858507201e-308,
		"0x" + rep("f", 255): math.Pow(2, 1020), "0x" + rep("f", 256): math.Inf(1), "0x1" + rep("0", 255): math.Pow(2, 1020), "0x1" + rep("0", 256): math.Inf(1),
		"0xfffffffffffff8" + rep("0", 242): math.MaxFloat64, "0xfffffffffffffb" + rep("f", 242): math.MaxFloat64, "0xfffffffffffffc" + rep("0", 242): math.Inf(1), "0x" + rep("0", 1000) + "1": 1, "0x1" + rep("0", 100000): math.Inf(1),
		"0." + rep("0", 1000) + "1e1001": 1, "1" + rep("0", 1000) + "e-1000": 1, rep("0", 70000) + "1": 1, "1" + rep("0", 70000) + "e-70000": 1, "." + rep("0", 69999) + "1e70000": 1,
	} {
		if v, e := Number(s); e != api.OK || !sameBits(v, want) {
			t.Errorf("%.100s: %v, %d, not %v", s, v, e, want)
		}
	}
	for _, s := range append([]string{"", " ", " 1", "1 ", "1\n", "+1", "-1", "1e", "1e+", "e1", ".", ".e1", "1.2.3", "1..", "0x", "0xg", "x1", "0x1.5", "0x1p3", "1_000", "Inf", "NaN", "inf", "nan", "5m", "0s", "a", "\"1\"", "(", "1+1", "1 2", "1#", "#1", "é", "١", "\xff", "1\xff", "1,", "0b1", "0o7"}, pieces...) {
		checkNumber(t, s)
	}
	for _, s := range []string{"", "Inf", "5m", "+1", "1 ", "1e"} {
		if v, e := Number(s); v != 0 || e != api.ErrToken {
			t.Errorf("%q: %v, %d", s, v, e)
		}
	}
}

// Halves between two floats, and what lies right beside them.
func TestP13_2_NumberOfHalves(t *testing.T) {
	r := rand.New(rand.NewSource(2))
	for range 300 {
		v := math.Float64frombits(r.Uint64() >> 1)
		if v > math.MaxFloat64/4 || math.IsNaN(v) {
			continue
		}
		low, high := new(big.Rat).SetFloat64(v), new(big.Rat).SetFloat64(math.Nextafter(v, math.Inf(1)))
		half := low.Add(low, high)
		half.Mul(half, big.NewRat(1, 2))
		s := half.FloatString(1080)
		checkNumber(t, s)
		checkNumber(t, s+rep("0", 500)+"1")
		checkNumber(t, s[:len(s)-6]) // cut ahead of its last digits
	}
	for n := int64(1<<53 + 1); n < 1<<53+200; n++ {
		checkNumber(t, strconv.FormatInt(n, 10))
		checkNumber(t, "0x"+strconv.FormatInt(n, 16))
		for _, behind := range []string{rep("0", 5), "00001", "80000", "80001", "7ffff", rep("0", 40) + "1"} {
			checkNumber(t, "0x"+strconv.FormatInt(n, 16)+behind)
			checkNumber(t, "0X"+strings.ToUpper(strconv.FormatInt(n<<5, 16))+behind)
		}
	}
}

func TestP13_2_NumberOfAnyDigits(t *testing.T) {
	r := rand.New(rand.NewSource(3))
	digits := func(all string) string {
		b := make([]byte, r.Intn(25))
		for i := range b {
			b[i] = all[r.Intn(len(all))]
		}
		return string(b)
	}
	for range 50000 {
		checkNumber(t, "0x"+digits("0123456789abcdefABCDEF")+digits("08"))
		s := digits("0123456789")
		if r.Intn(2) == 0 {
			s += "." + digits("0123456789")
		}
		if r.Intn(2) == 0 {
			s += "e" + strconv.Itoa(r.Intn(700)-350)
		}
		checkNumber(t, s)
	}
}

// Any number of digits is gone over, but not reckoned with: else this would not end.
func TestP13_2_NumberOfManyDigits(t *testing.T) {
	for _, s := range []string{rep("7", 3000000), "." + rep("7", 3000000), "0x" + rep("7", 3000000), "1e" + rep("7", 3000000), "1" + rep("0", 3000000) + "e-3000000", "1e-" + rep("0", 3000000) + "1"} {
		if _, e := Number(s); e != api.OK {
			t.Error(s[:10], e)
		}
	}
}

func TestP13_2_Span(t *testing.T) {
	for s, want := range map[string]int64{
		"0s": 0, "0y": 0, "00ms": 0, "1y": 31536000000, "1w": 604800000, "1d": 86400000, "1h": 3600000, "1m": 60000, "1s": 1000, "1ms": 1, "007s": 7000,
		"1y2w3d4h5m6s7ms": 31536000000 + 2*604800000 + 3*86400000 + 4*3600000 + 5*60000 + 6007, "1h30m": 5400000, "90m": 5400000, "1s500ms": 1500, "1m1ms": 60001, "0y0w0d0h0m0s0ms": 0,
		"1099511627776ms": 1 << 40, "34y45w19h53m47s776ms": 1 << 40, "1099511627s776ms": 1 << 40, rep("0", 100000) + "1ms": 1,
	} {
		if n, e := Span(s); n != want || e != api.OK {
			t.Errorf("%.50s: %d, %d, not %d", s, n, e, want)
		}
		checkSpan(t, s)
	}
	for _, s := range []string{"1099511627777ms", "34y45w19h53m47s777ms", "1099511627s777ms", "35y", "34y100w", rep("9", 30) + "y", rep("9", 100000) + "ms", "9223372036854775807ms", "9223372036854775808ms", "18446744073709551616ms", "18446744073709551617ms", "292471209y", "584942418y", "34y1099511627776ms", "34y99999999999w0ms"} {
		if n, e := Span(s); n != 0 || e != api.ErrLarge {
			t.Errorf("%.50s: %d, %d", s, n, e)
		}
		checkSpan(t, s)
	}
	for _, s := range append([]string{"", " ", "5", "5 m", "5m ", " 5m", "m", "ms", "5mm", "5m5m", "30m1h", "5ms5s", "1s1m", "5M", "5us", "5m5", "5m.", "5.5m", "-5m", "+5m", "5m_", "5m:", "5ma", "0x5m", "1e5m", "\"5m\"", "5m#", "5m+5m", "٥m", "5é", "\xff", "35y35y", rep("9", 100) + "y1y"}, pieces...) {
		checkSpan(t, s)
	}
	for _, s := range []string{"", "5", "30m1h", "5m5m", rep("9", 100) + "ms1s"} {
		if n, e := Span(s); n != 0 || e != api.ErrToken {
			t.Errorf("%q: %d, %d", s, n, e)
		}
	}
}

func TestP13_2_SpanOfAnyUnits(t *testing.T) {
	r := rand.New(rand.NewSource(4))
	for range 50000 {
		s := ""
		for _, u := range modelUnits {
			if r.Intn(3) == 0 {
				s += strconv.FormatInt(r.Int63n(2+int64(1<<41)/u.each), 10) + u.text
			}
			if r.Intn(60) == 0 {
				s += "1" + modelUnits[r.Intn(7)].text
			}
		}
		checkSpan(t, s)
	}
}

func TestP13_2_SpanText(t *testing.T) {
	for n, want := range map[int64]string{0: "0s", 1: "1ms", 999: "999ms", 1000: "1s", 1500: "1s500ms", 60000: "1m", 59999: "59s999ms", 3600000: "1h", 5400000: "1h30m", 86400000: "1d", 604800000: "1w", 31536000000: "1y", 31535999999: "52w23h59m59s999ms", 1 << 40: "34y45w19h53m47s776ms", 63072000000: "2y", 31536000001: "1y1ms", 1<<40 - 1: "34y45w19h53m47s775ms"} {
		if s, e := SpanText(n); s != want || e != api.OK {
			t.Error(n, s, e)
		}
	}
	for _, n := range []int64{-1, -1000, 1<<40 + 1, math.MaxInt64, math.MinInt64} {
		if s, e := SpanText(n); s != "" || e != api.ErrArg {
			t.Error(n, s, e)
		}
	}
}

func TestP13_7_SpanOfItsText(t *testing.T) {
	r := rand.New(rand.NewSource(7))
	for i := range int64(40000) {
		n := []int64{i, 1<<40 - i, r.Int63n(1<<40 + 1), r.Int63n(1 << 20), i * 1000, r.Int63n(35) * 31536000000}[i%6]
		s, e := SpanText(n)
		if want, we := modelSpanText(n); s != want || e != we {
			t.Fatal(n, s, e, want)
		}
		if e == api.OK {
			if again, e := Span(s); again != n || e != api.OK {
				t.Fatal(n, s, again, e)
			}
		}
	}
}

func TestP13_3_Quote(t *testing.T) {
	for s, want := range map[string]string{
		"": `""`, "a": `"a"`, `\`: `"\\"`, `"`: `"\""`, "'": `"'"`, "\n": `"\n"`, "\t": `"\t"`, "\r": `"\r"`, "\x00": `"\x00"`, "\x0b": `"\x0b"`, "\x1f": `"\x1f"`, "\x7f": `"\x7f"`, " ": `" "`, "~": `"~"`, "é": `"é"`, "\u0080": "\"\u0080\"", "\uFFFD": "\"\uFFFD\"", "𝄞": `"𝄞"`, `\n`: `"\\n"`, "#": `"#"`, "a\"b\\c": `"a\"b\\c"`,
	} {
		if q, e := Quote(s); q != want || e != api.OK {
			t.Errorf("%q: %s, %d", s, q, e)
		}
		checkQuote(t, s)
	}
	for _, s := range []string{"\xff", "a\xc3", "\xed\xa0\x80", "\xf4\x90\x80\x80", "\x80", rep("a", 70000) + "\xfe"} {
		if q, e := Quote(s); q != "" || e != api.ErrUtf {
			t.Errorf("%q: %s, %d", s, q, e)
		}
	}
	for r := range rune(0x3000) {
		checkQuote(t, "a"+string(r)+"b")
	}
	checkQuote(t, rep("\x00", 100000))
	all := ""
	for _, s := range pieces {
		checkQuote(t, s)
		all += s
		checkQuote(t, all)
	}
}
