package chunk

import (
	"fmt"
	"math"
	"math/rand"
	"strconv"
	"strings"

	"tocsin/api"
)

// The form by the words of the document: bits as texts of 0 and 1.

func inBits(v uint64, k int) string {
	return fmt.Sprintf("%064b", v)[64-k:]
}

func uvarintBits(n uint64) string {
	s := ""
	for ; n > 127; n >>= 7 {
		s += inBits(n&127|128, 8)
	}
	return s + inBits(n, 8)
}

func varintBits(n int64) string {
	if n >= 0 {
		return uvarintBits(uint64(2 * n))
	}
	return uvarintBits(uint64(-2*n - 1))
}

func modelTurn(d int64) string {
	in := func(k int) bool { return -(int64(1)<<(k-1)-1) <= d && d <= int64(1)<<(k-1) }
	switch {
	case d == 0:
		return "0"
	case in(14):
		return "10" + inBits(uint64(d), 14)
	case in(17):
		return "110" + inBits(uint64(d), 17)
	case in(20):
		return "1110" + inBits(uint64(d), 20)
	}
	return "1111" + inBits(uint64(d), 64)
}

// lastWindow is an l' and t'; there is none, if l' is below 0.
type lastWindow struct{ l, t int }

func modelValue(v, before float64, w *lastWindow) string {
	x := inBits(math.Float64bits(v)^math.Float64bits(before), 64)
	if !strings.Contains(x, "1") {
		return "0"
	}
	l := min(strings.Index(x, "1"), 31)
	t := 63 - strings.LastIndex(x, "1")
	if w.l >= 0 && l >= w.l && t >= w.t {
		return "10" + x[w.l:64-w.t]
	}
	*w = lastWindow{l, t}
	return "11" + inBits(uint64(l), 5) + inBits(uint64(64-l-t)%64, 6) + x[l:64-t]
}

func modelEncode(l []api.Sample) []byte {
	s := inBits(uint64(len(l)), 16)
	w := &lastWindow{-1, -1}
	for i, x := range l {
		switch i {
		case 0:
			s += varintBits(x.T) + inBits(math.Float64bits(x.V), 64)
		case 1:
			s += uvarintBits(uint64(x.T-l[0].T)) + modelValue(x.V, l[0].V, w)
		default:
			s += modelTurn(x.T-l[i-1].T-(l[i-1].T-l[i-2].T)) + modelValue(x.V, l[i-1].V, w)
		}
	}
	return packed(s)
}

func packed(s string) []byte {
	for len(s)%8 != 0 {
		s += "0"
	}
	var b []byte
	for ; s != ""; s = s[8:] {
		n, _ := strconv.ParseUint(s[:8], 2, 8)
		b = append(b, byte(n))
	}
	return b
}

// strict reads a form bit by bit, and refuses what is not the only one as soon as it is there.
type strict struct {
	s   string
	bad bool
}

func (r *strict) text(n int) string {
	if n < 0 || n > len(r.s) {
		r.bad = true
		return strings.Repeat("0", max(n, 1))
	}
	s := r.s[:n]
	r.s = r.s[n:]
	return s
}

func (r *strict) bits(n int) uint64 {
	v, _ := strconv.ParseUint(r.text(n), 2, 64)
	return v
}

func (r *strict) uvarint() uint64 {
	var v uint64
	for i := 0; ; i++ {
		x := r.bits(8)
		if r.bad || i == 9 && x > 1 || i > 0 && x == 0 {
			r.bad = true
			return 0
		}
		v |= x & 127 << (7 * i)
		if x < 128 {
			return v
		}
	}
}

func (r *strict) turn() int64 {
	form := 0
	for form < 4 && r.text(1) == "1" {
		form++
	}
	if form == 0 || r.bad {
		return 0
	}
	k := []int{0, 14, 17, 20, 64}[form]
	v := r.bits(k)
	d := int64(v)
	if k < 64 && v > 1<<(k-1) {
		d -= 1 << k
	}
	if !strings.HasPrefix(modelTurn(d), []string{"0", "10", "110", "1110", "1111"}[form]) {
		r.bad = true
	}
	return d
}

func (r *strict) value(before float64, w *lastWindow) float64 {
	if r.text(1) == "0" {
		return before
	}
	was := *w
	own := r.text(1) == "1"
	if own {
		w.l = int(r.bits(5))
		size := int(r.bits(6))
		if size == 0 {
			size = 64
		}
		w.t = 64 - w.l - size
	}
	if w.l < 0 || w.t < 0 || r.bad {
		r.bad = true
		return 0
	}
	x := strings.Repeat("0", w.l) + r.text(64-w.l-w.t) + strings.Repeat("0", w.t)
	if r.bad || !strings.Contains(x, "1") {
		r.bad = true
		return 0
	}
	l := min(strings.Index(x, "1"), 31)
	t := 63 - strings.LastIndex(x, "1")
	fits := was.l >= 0 && l >= was.l && t >= was.t
	if own && (fits || w.l != l || w.t != t) {
		r.bad = true
	}
	turned, _ := strconv.ParseUint(x, 2, 64)
	return math.Float64frombits(math.Float64bits(before) ^ turned)
}

func modelDecode(b []byte) ([]api.Sample, bool) {
	r := &strict{}
	for _, x := range b {
		r.s += inBits(uint64(x), 8)
	}
	count := int(r.bits(16))
	if r.bad || count > 120 {
		return nil, false
	}
	var l []api.Sample
	w := &lastWindow{-1, -1}
	for i := range count {
		var x api.Sample
		switch i {
		case 0:
			z := r.uvarint()
			x = api.Sample{T: int64(z >> 1), V: math.Float64frombits(r.bits(64))}
			r.bad = r.bad || z&1 == 1
		case 1:
			gap := r.uvarint()
			r.bad = r.bad || gap > 1<<50
			x.T = l[0].T + int64(gap&(1<<51-1))
			x.V = r.value(l[0].V, w)
		default:
			d := r.turn()
			r.bad = r.bad || d > 1<<52 || d < -1<<52
			x.T = l[i-1].T + (l[i-1].T - l[i-2].T) + d
			x.V = r.value(l[i-1].V, w)
		}
		if r.bad || x.T < 0 || x.T > 1<<50 || i > 0 && x.T <= l[i-1].T {
			return nil, false
		}
		l = append(l, x)
	}
	return l, len(r.s) < 8 && !strings.Contains(r.s, "1")
}

// sameSamples holds values against each other bit by bit.
func sameSamples(a, b []api.Sample) bool {
	if len(a) != len(b) {
		return false
	}
	for i := range a {
		if a[i].T != b[i].T || math.Float64bits(a[i].V) != math.Float64bits(b[i].V) {
			return false
		}
	}
	return true
}

// randomSamples rise by gaps that are alike, or of any length; their values are alike, or of any bits.
func randomSamples(r *rand.Rand, n int) []api.Sample {
	var l []api.Sample
	t := r.Int63n(1 << (1 + r.Intn(45)))
	v := math.Float64frombits(r.Uint64())
	gap := 1 + r.Int63n(100000)
	calm := r.Intn(3) > 0
	for range n {
		l = append(l, api.Sample{T: t, V: v})
		switch {
		case r.Intn(4) == 0:
			t += 1 + r.Int63n(1<<r.Intn(21))
		case !calm && r.Intn(4) == 0:
			t += 1 + r.Int63n(1<<r.Intn(40))
		default:
			t += gap
		}
		switch r.Intn(8) {
		case 0:
			v = math.Float64frombits(r.Uint64())
		case 1:
			v = math.Float64frombits(math.Float64bits(v) ^ 1<<r.Intn(64))
		case 2:
			v = math.Float64frombits(math.Float64bits(v) ^ r.Uint64()>>r.Intn(64)<<r.Intn(64))
		case 3:
			v++
		case 4:
			v = float64(r.Intn(100))
		}
	}
	return l
}
