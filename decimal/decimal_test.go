package decimal

import (
	"math"
	"math/big"
	"math/rand"
	"strconv"
	"strings"
	"testing"
)

// shortest: what the library tells, cut into digits and exponent.
func shortest(v float64) (string, int) {
	s := strconv.FormatFloat(math.Abs(v), 'e', -1, 64)
	mantissa, exponent, _ := strings.Cut(s, "e")
	n, _ := strconv.Atoi(exponent)
	return strings.Replace(mantissa, ".", "", 1), n
}

func checkShortest(t *testing.T, v float64) {
	t.Helper()
	digits, exponent := Shortest(v)
	if d, e := shortest(v); d != digits || e != exponent {
		t.Fatalf("Shortest(%b): %s, %d, not %s, %d", v, digits, exponent, d, e)
	}
	if again := Nearest(digits, exponent-len(digits)+1); math.Float64bits(again) != math.Float64bits(math.Abs(v)) {
		t.Fatalf("Nearest(%s, %d): %b, not %b", digits, exponent-len(digits)+1, again, v)
	}
}

// nearest: the float nearest to a fraction. (The library's ParseFloat goes wrong beyond 800 digits without a point.)
func nearest(digits string, exponent int) float64 {
	if len(digits) < 800 {
		v, _ := strconv.ParseFloat(digits+"e"+strconv.Itoa(exponent), 64)
		return v
	}
	n, _ := new(big.Int).SetString(digits, 10)
	ten := new(big.Int).Exp(big.NewInt(10), big.NewInt(int64(max(exponent, -exponent))), nil)
	r := new(big.Rat).SetFrac(n, ten)
	if exponent > 0 {
		r.SetInt(n.Mul(n, ten))
	}
	v, _ := r.Float64()
	return v
}

func checkNearest(t *testing.T, digits string, exponent int) {
	t.Helper()
	want := nearest(digits, exponent)
	if got := Nearest(digits, exponent); math.Float64bits(got) != math.Float64bits(want) {
		t.Fatalf("Nearest(%s, %d): %b, not %b", digits, exponent, got, want)
	}
}

// edges are floats at which forms change, and their neighbours.
func edges() []float64 {
	var out []float64
	for power := -1074; power <= 1023; power++ {
		v := math.Ldexp(1, power)
		out = append(out, v, math.Nextafter(v, 0), math.Nextafter(v, math.MaxFloat64))
	}
	for ten := -324; ten <= 308; ten++ {
		v, _ := strconv.ParseFloat("1e"+strconv.Itoa(ten), 64)
		out = append(out, v, math.Nextafter(v, 0), math.Nextafter(v, math.MaxFloat64), -v)
	}
	return append(out, 0, math.Copysign(0, -1), math.MaxFloat64, -math.MaxFloat64, math.SmallestNonzeroFloat64, 1<<49+0.25, 1<<49+0.75, 1<<50+0.75)
}

func TestShortestOfEdges(t *testing.T) {
	for _, v := range edges() {
		checkShortest(t, v)
	}
}

func TestShortestOfAnyBits(t *testing.T) {
	r := rand.New(rand.NewSource(1))
	for range 50000 {
		if v := math.Float64frombits(r.Uint64()); !math.IsNaN(v) && !math.IsInf(v, 0) {
			checkShortest(t, v)
		}
		checkShortest(t, float64(r.Intn(1000000))/1000)
		checkShortest(t, math.Float64frombits(r.Uint64()>>(12+r.Intn(52))))
	}
}

// Two decimals so short lie as near to the float: the even one is told.
func TestShortestOfTies(t *testing.T) {
	r := rand.New(rand.NewSource(2))
	for range 5000 {
		checkShortest(t, 1<<49+float64(r.Int63n(1<<49))+0.25*float64(r.Intn(4)))
	}
	if d, e := Shortest(1<<49 + 0.25); d != "5629499534213122" || e != 14 {
		t.Error(d, e)
	}
	if d, e := Shortest(1<<49 + 0.75); d != "5629499534213128" || e != 14 {
		t.Error(d, e)
	}
	// The nearest of so few digits is not read as this power of two, the other one is.
	if d, e := Shortest(math.Ldexp(1, -44)); d != "5684341886080802" || e != -14 {
		t.Error(d, e)
	}
}

func TestShortestOfNoNumber(t *testing.T) {
	for _, v := range []float64{math.Inf(1), math.Inf(-1), math.NaN(), math.Float64frombits(math.MaxUint64)} {
		if d, _ := Shortest(v); d == "" || len(d) > 17 {
			t.Error(v, d)
		}
	}
}

func TestNearestOfAnyDigits(t *testing.T) {
	r := rand.New(rand.NewSource(3))
	for range 50000 {
		b := make([]byte, 1+r.Intn(64))
		for i := range b {
			b[i] = byte('0' + r.Intn(10))
		}
		checkNearest(t, string(b), r.Intn(800)-450)
		checkNearest(t, string(b), r.Intn(30)-15-len(b))
	}
}

func TestNearestAtTheEnds(t *testing.T) {
	for _, exponent := range []int{math.MinInt, -10063, -400, -389, -388, -387, -325, -324, -323, -1, 0, 1, 245, 246, 308, 309, 310, 9999, math.MaxInt} {
		for _, digits := range []string{"1", "9", "2470328229206232720882843964341106861825299013071623822127928412503377536351043", strings.Repeat("9", 64), strings.Repeat("0", 50) + "17976931348623158"} {
			checkNearest(t, digits, exponent)
		}
		for _, digits := range []string{"", "0", strings.Repeat("0", 64)} {
			if v := Nearest(digits, exponent); math.Float64bits(v) != 0 {
				t.Error(digits, exponent, v)
			}
		}
	}
}

// Each number half-way between two floats, and the least bit to either side of it.
func TestNearestOfHalves(t *testing.T) {
	for i, v := range edges() {
		if v = math.Abs(v); v > math.MaxFloat64/4 {
			continue
		}
		low := new(big.Rat).SetFloat64(v)
		high := new(big.Rat).SetFloat64(math.Nextafter(v, math.MaxFloat64))
		half := low.Add(low, high)
		half.Mul(half, big.NewRat(1, 2))
		// A half is a whole number of 2^-1075: so many digits behind the point tell it wholly.
		digits := strings.Replace(half.FloatString(1075), ".", "", 1)
		checkNearest(t, digits, -1075)
		checkNearest(t, digits+"1", -1076)
		if i%16 == 0 {
			checkNearest(t, digits+strings.Repeat("0", 900), -1975)
			checkNearest(t, digits+strings.Repeat("0", 900)+"1", -1976)
		}
		n, _ := new(big.Int).SetString(digits, 10)
		checkNearest(t, n.Sub(n, big.NewInt(1)).String(), -1075)
	}
}

func TestNearestOfManyDigits(t *testing.T) {
	checkNearest(t, strings.Repeat("7", 3000), -3000)
	checkNearest(t, "1"+strings.Repeat("0", 3000), -3000)
	checkNearest(t, "9007199254740993"+strings.Repeat("0", 900), -900)
	checkNearest(t, "9007199254740993"+strings.Repeat("0", 900)+"1", -901)
}

// So many digits are gone over, but not reckoned with: else this would not end.
func TestNearestOfVeryManyDigits(t *testing.T) {
	const many = 5000000
	for _, c := range []struct {
		digits   string
		exponent int
		want     float64
	}{
		{"1" + strings.Repeat("0", many), -many, 1},
		{strings.Repeat("0", many) + "15", -1, 1.5},
		{strings.Repeat("9", many), -many, 1},
		{"9007199254740993" + strings.Repeat("0", many), -many, 9007199254740992},
		{"9007199254740993" + strings.Repeat("0", many) + "1", -many - 1, 9007199254740994},
		{"1" + strings.Repeat("0", many), 0, math.Inf(1)},
		{"1" + strings.Repeat("0", many), -2 * many, 0},
	} {
		if v := Nearest(c.digits, c.exponent); v != c.want {
			t.Error(c.digits[:20], c.exponent, v, c.want)
		}
	}
}

func FuzzDecimal(f *testing.F) {
	f.Add("123", -2, uint64(0x3ff8000000000000))
	f.Fuzz(func(t *testing.T, digits string, exponent int, all uint64) {
		if len(digits) > 200 || strings.Trim(digits, "0123456789") != "" || digits == "" {
			digits = "1"
		}
		checkNearest(t, digits, exponent%500)
		if v := math.Float64frombits(all); !math.IsNaN(v) && !math.IsInf(v, 0) {
			checkShortest(t, v)
		}
	})
}
