package chunk

import (
	"bytes"
	"fmt"
	"math"
	"math/rand"
	"slices"
	"testing"

	"tocsin/api"
)

var (
	infinity = math.Inf(1)
	stale    = math.Float64frombits(0x7ff0000000000002)
	theNaN   = math.Float64frombits(0x7ff8000000000001)
)

// oddFloats are floats whose bits are easily lost.
func oddFloats() []float64 {
	return []float64{
		0, math.Copysign(0, -1), 1, -1, infinity, -infinity, stale, theNaN, math.NaN(),
		math.Float64frombits(0x7ff0000000000001), math.Float64frombits(0xfff0000000000001), math.Float64frombits(0xfff8000000000000),
		math.Float64frombits(math.MaxUint64), math.Float64frombits(0x7fffffffffffffff), math.MaxFloat64, -math.MaxFloat64,
		math.SmallestNonzeroFloat64, -math.SmallestNonzeroFloat64, math.Float64frombits(0x000fffffffffffff), math.Float64frombits(0x0010000000000000),
	}
}

func mustEncode(t *testing.T, l []api.Sample) []byte {
	t.Helper()
	b, e, at := Encode(l)
	if e != api.OK || at != 0 {
		t.Fatal("Encode", e, at)
	}
	return b
}

func inAll(c *Chunk) []api.Sample {
	var l []api.Sample
	for t, v := range c.All() {
		l = append(l, api.Sample{T: t, V: v})
	}
	return l
}

// every answers n samples, one each second.
func every(n int) []api.Sample {
	var l []api.Sample
	for i := range n {
		l = append(l, api.Sample{T: int64(1000 * i), V: float64(i % 7)})
	}
	return l
}

// checkForm holds what l is written as, and read from, against the model.
func checkForm(t *testing.T, l []api.Sample) {
	t.Helper()
	b := mustEncode(t, l)
	if want := modelEncode(l); !bytes.Equal(b, want) {
		t.Fatalf("Encode(%v) = %x, not %x", l, b, want)
	}
	back, e := Decode(b)
	if e != api.OK || !sameSamples(back, l) {
		t.Fatalf("Decode of %v = %v %d", l, back, e)
	}
	c := New()
	for i, s := range l {
		if e := c.Append(s.T, s.V); e != api.OK || c.Len() != i+1 {
			t.Fatal("Append", e, c.Len())
		}
		if last, ok := c.Last(); !ok || !sameSamples([]api.Sample{last}, []api.Sample{s}) {
			t.Fatal("Last", last, ok)
		}
	}
	if !bytes.Equal(c.Bytes(), b) || !sameSamples(inAll(c), l) {
		t.Fatalf("Bytes of %v = %x", l, c.Bytes())
	}
}

func TestExamples(t *testing.T) {
	c := New()
	one := []byte{0, 1, 0xd0, 0x0f, 0x3f, 0xf0, 0, 0, 0, 0, 0, 0}
	if e := c.Append(1000, 1); e != api.OK || !bytes.Equal(c.Bytes(), one) {
		t.Errorf("%d % x", e, c.Bytes())
	}
	if e := c.Append(1000, 2); e != api.ErrOld || !bytes.Equal(c.Bytes(), one) {
		t.Error("Append again", e)
	}
	one[1] = 2
	if e := c.Append(2000, 1); e != api.OK || !bytes.Equal(c.Bytes(), append(one, 0xe8, 0x07, 0)) {
		t.Errorf("%d % x", e, c.Bytes())
	}
	one[1] = 3
	if e := c.Append(3000, 1); e != api.OK || !bytes.Equal(c.Bytes(), append(one, 0xe8, 0x07, 0)) {
		t.Errorf("%d % x", e, c.Bytes())
	}
	for _, x := range []struct {
		b []byte
		e api.Errno
	}{{[]byte{0, 0}, api.OK}, {[]byte{0}, api.ErrForm}, {[]byte{0, 1}, api.ErrForm}, {nil, api.ErrForm}} {
		if l, e := Decode(x.b); len(l) != 0 || e != x.e {
			t.Errorf("Decode(% x) = %v %d", x.b, l, e)
		}
	}
}

func TestP8_1_Append(t *testing.T) {
	c := New()
	if c.Len() != 0 || len(inAll(c)) != 0 || !bytes.Equal(c.Bytes(), []byte{0, 0}) {
		t.Error("an empty chunk")
	}
	if s, ok := c.Last(); ok || s != (api.Sample{}) {
		t.Error("Last of none", s, ok)
	}
	for _, x := range []struct {
		t int64
		e api.Errno
	}{
		{-1, api.ErrArg}, {math.MinInt64, api.ErrArg}, {api.MaxTime + 1, api.ErrArg}, {math.MaxInt64, api.ErrArg},
		{0, api.OK}, {0, api.ErrOld}, {-1, api.ErrArg}, {1, api.OK}, {1, api.ErrOld}, {0, api.ErrOld}, {100, api.OK}, {99, api.ErrOld},
		{api.MaxTime + 1, api.ErrArg}, {api.MaxTime, api.OK}, {api.MaxTime, api.ErrOld}, {api.MaxTime + 1, api.ErrArg}, {api.MaxTime - 1, api.ErrOld},
	} {
		before, n := c.Bytes(), c.Len()
		if e := c.Append(x.t, 5); e != x.e {
			t.Errorf("Append(%d) = %d, not %d", x.t, e, x.e)
		}
		if x.e != api.OK && (!bytes.Equal(c.Bytes(), before) || c.Len() != n) {
			t.Error("a refused sample has changed something")
		}
	}
	want := []api.Sample{{T: 0, V: 5}, {T: 1, V: 5}, {T: 100, V: 5}, {T: api.MaxTime, V: 5}}
	if !sameSamples(inAll(c), want) {
		t.Error(inAll(c))
	}
	checkForm(t, want)
}

func TestP8_1_Full(t *testing.T) {
	c := New()
	for _, s := range every(120) {
		if e := c.Append(s.T, s.V); e != api.OK {
			t.Fatal("Append", s.T, e)
		}
	}
	before := c.Bytes()
	for _, x := range []struct {
		t int64
		e api.Errno
	}{{120000, api.ErrFull}, {api.MaxTime, api.ErrFull}, {119000, api.ErrOld}, {0, api.ErrOld}, {-1, api.ErrArg}, {api.MaxTime + 1, api.ErrArg}} {
		if e := c.Append(x.t, 1); e != x.e {
			t.Errorf("Append(%d) = %d, not %d", x.t, e, x.e)
		}
	}
	if c.Len() != 120 || !bytes.Equal(c.Bytes(), before) || !sameSamples(inAll(c), every(120)) {
		t.Error("a refused sample has changed something")
	}
	if s, ok := c.Last(); !ok || s != every(120)[119] {
		t.Error("Last", s, ok)
	}
}

func TestP8_1_Nil(t *testing.T) {
	var c *Chunk
	for _, time := range []int64{0, -1, api.MaxTime + 1} {
		if e := c.Append(time, 1); e != api.ErrNil {
			t.Error("Append", e)
		}
	}
	if s, ok := c.Last(); ok || s != (api.Sample{}) || c.Len() != 0 || len(c.Bytes()) != 0 || len(inAll(c)) != 0 {
		t.Error("a nil chunk has something")
	}
	// One that New has not made is empty.
	z := &Chunk{}
	if !bytes.Equal(z.Bytes(), []byte{0, 0}) || len(inAll(z)) != 0 || z.Append(1, 2) != api.OK || !sameSamples(inAll(z), []api.Sample{{T: 1, V: 2}}) {
		t.Error("a zero chunk")
	}
}

func TestP8_2_Counts(t *testing.T) {
	for _, n := range []int{0, 1, 2, 3, 119, 120} {
		checkForm(t, every(n))
		if b := mustEncode(t, every(n)); b[0] != 0 || int(b[1]) != n {
			t.Errorf("%d samples: % x", n, b[:2])
		}
	}
	for _, n := range []int{121, 122, 240, 1000} {
		if b, e, at := Encode(every(n)); b != nil || e != api.ErrFull || at != 120 {
			t.Error("Encode of", n, b, e, at)
		}
	}
	if b, e, at := Encode(nil); !bytes.Equal(b, []byte{0, 0}) || e != api.OK || at != 0 {
		t.Error("Encode(nil)", b, e, at)
	}
}

func TestP8_2_Faults(t *testing.T) {
	for _, x := range []struct {
		times []int64
		e     api.Errno
		at    int
	}{
		{[]int64{-1}, api.ErrArg, 0},
		{[]int64{api.MaxTime + 1}, api.ErrArg, 0},
		{[]int64{0, 0}, api.ErrOld, 1},
		{[]int64{5, 4}, api.ErrOld, 1},
		{[]int64{5, 6, 6, -1}, api.ErrOld, 2},
		{[]int64{5, 6, -1, 6}, api.ErrArg, 2},
		{[]int64{5, 6, 7, api.MaxTime + 1}, api.ErrArg, 3},
		{[]int64{5, api.MaxTime, api.MaxTime}, api.ErrOld, 2},
		{[]int64{5, math.MaxInt64}, api.ErrArg, 1},
		{[]int64{5, math.MinInt64}, api.ErrArg, 1},
	} {
		var l []api.Sample
		for _, time := range x.times {
			l = append(l, api.Sample{T: time, V: 1})
		}
		if b, e, at := Encode(l); b != nil || e != x.e || at != x.at {
			t.Errorf("Encode(%v) = %x %d %d", x.times, b, e, at)
		}
		if b, e, at := Split(l); b != nil || e != x.e || at != x.at {
			t.Errorf("Split(%v) = %x %d %d", x.times, b, e, at)
		}
	}
	l := append(every(120), api.Sample{T: 5, V: 1})
	if _, e, at := Encode(l); e != api.ErrOld || at != 120 {
		t.Error("ErrOld is ahead of ErrFull", e, at)
	}
	l[120].T = -1
	if _, e, at := Encode(l); e != api.ErrArg || at != 120 {
		t.Error("ErrArg is ahead of ErrFull", e, at)
	}
}

// Each form of a time, at both ends of its R(k), and one beyond.
func TestP8_2_Times(t *testing.T) {
	for _, x := range []struct {
		d    int64
		bits int
	}{
		{0, 1}, {1, 16}, {-1, 16}, {8191, 16}, {8192, 16}, {-8191, 16},
		{8193, 20}, {-8192, 20}, {65535, 20}, {65536, 20}, {-65535, 20},
		{65537, 24}, {-65536, 24}, {524288, 24}, {-524287, 24},
		{524289, 68}, {-524288, 68}, {1 << 40, 68}, {-1 << 40, 68}, {1<<50 - 2<<41, 68},
	} {
		gap := int64(1) << 41
		l := []api.Sample{{T: 0, V: 1}, {T: gap, V: 1}, {T: 2*gap + x.d, V: 1}}
		if l[2].T > api.MaxTime {
			t.Fatal("a time that can not be")
		}
		checkForm(t, l)
		c := New()
		c.Append(l[0].T, 1)
		c.Append(l[1].T, 1)
		before := c.stream.Len()
		c.Append(l[2].T, 1)
		if n := c.stream.Len() - before; n != x.bits+1 {
			t.Errorf("%d takes %d bits, not %d and one", x.d, n, x.bits)
		}
	}
	// The greatest turns that there are.
	checkForm(t, []api.Sample{{T: 0}, {T: 1}, {T: api.MaxTime}})
	checkForm(t, []api.Sample{{T: 0}, {T: api.MaxTime - 1}, {T: api.MaxTime}})
	checkForm(t, []api.Sample{{T: 0}, {T: api.MaxTime}})
	checkForm(t, []api.Sample{{T: api.MaxTime}})
	for k := range 50 {
		checkForm(t, []api.Sample{{T: 1 << k}, {T: 1<<k + 1<<(49-k)}, {T: api.MaxTime}})
	}
}

// What two values differ in: nothing, one bit, all bits, any stretch of them; in a window of their own, and in the last one.
func TestP8_2_Values(t *testing.T) {
	first := math.Float64frombits(0x5555_0123_4567_89ab)
	var turns []uint64
	for from := range 64 {
		for to := from; to < 64; to++ {
			turns = append(turns, math.MaxUint64>>(63-to+from)<<from, 1<<to|1<<from)
		}
	}
	turns = append(turns, 0, math.MaxUint64, 1, 1<<63, 1<<32, 1<<33-1, 1<<31, 1<<34-1)
	for _, x := range turns {
		second := math.Float64frombits(math.Float64bits(first) ^ x)
		checkForm(t, []api.Sample{{T: 1, V: first}, {T: 2, V: second}, {T: 3, V: first}, {T: 9, V: first}, {T: 11, V: second}})
	}
	r := rand.New(rand.NewSource(82))
	for range 3000 {
		v := r.Uint64()
		l := []api.Sample{{T: 0, V: math.Float64frombits(v)}}
		for i := range 6 {
			v ^= turns[r.Intn(len(turns))]
			l = append(l, api.Sample{T: int64(i + 1), V: math.Float64frombits(v)})
		}
		checkForm(t, l)
	}
}

// The bits of some values, as they stand.
func TestP8_2_ValueBits(t *testing.T) {
	of := func(bits ...uint64) string {
		c := New()
		for i, b := range bits {
			c.Append(int64(i), math.Float64frombits(b))
		}
		s := ""
		for _, b := range c.stream.Bytes() {
			s += fmt.Sprintf("%08b", b)
		}
		return s[8+64+8 : c.stream.Len()]
	}
	ones := "1111111111111111111111111111111111111111111111111111111111111111"
	for _, x := range []struct {
		bits []uint64
		want string
	}{
		{[]uint64{7, 7}, "0"},
		{[]uint64{0, 1 << 63}, "11" + "00000" + "000001" + "1"},
		{[]uint64{0, 1}, "11" + "11111" + "100001" + "000000000000000000000000000000001"},
		{[]uint64{0, math.MaxUint64}, "11" + "00000" + "000000" + ones},
		{[]uint64{0, 1 << 32}, "11" + "11111" + "000001" + "1"},
		{[]uint64{0, 1 << 31}, "11" + "11111" + "000010" + "01"},
		{[]uint64{0, 0xf0, 0x80}, "11" + "11111" + "011101" + "00000000000000000000000001111" + "0" + "10" + "00000000000000000000000000111"},
		{[]uint64{0, 0xf0, 0xf8}, "11" + "11111" + "011101" + "00000000000000000000000001111" + "0" + "11" + "11111" + "011110" + "000000000000000000000000000001"},
		{[]uint64{0, 0xff << 56, 0x0f << 56}, "11" + "00000" + "001000" + "11111111" + "0" + "10" + "11110000"},
	} {
		if got := of(x.bits...); got != x.want {
			t.Errorf("%x: %s, not %s", x.bits, got, x.want)
		}
	}
}

func TestP8_5_OddFloats(t *testing.T) {
	odd := oddFloats()
	for _, v := range odd {
		checkForm(t, []api.Sample{{T: 5, V: v}})
		for _, w := range odd {
			checkForm(t, []api.Sample{{T: 5, V: v}, {T: 6, V: w}, {T: 7, V: v}, {T: 8, V: v}})
		}
	}
	var l []api.Sample
	for i := range 120 {
		l = append(l, api.Sample{T: int64(i), V: odd[i%len(odd)]})
	}
	checkForm(t, l)
	// NaNs of any bits, quiet or not.
	for k := range 52 {
		for _, sign := range []uint64{0, 1 << 63} {
			checkForm(t, []api.Sample{{T: 1, V: math.Float64frombits(sign | 0x7ff<<52 | 1<<k)}, {T: 2, V: math.Float64frombits(0x7ff<<52 | 1<<k | 1)}})
		}
	}
}

func TestP8_5_Random(t *testing.T) {
	r := rand.New(rand.NewSource(85))
	for range 1500 {
		checkForm(t, randomSamples(r, r.Intn(121)))
	}
}

// checkBytes holds what Decode says of any bytes against the model.
func checkBytes(t *testing.T, b []byte) bool {
	t.Helper()
	kept := bytes.Clone(b)
	l, e := Decode(b)
	want, ok := modelDecode(b)
	if ok != (e == api.OK) || e != api.OK && (e != api.ErrForm || l != nil) || ok && !sameSamples(l, want) {
		t.Fatalf("Decode(%x) = %v %d, not %v %v", b, l, e, want, ok)
	}
	if ok && !bytes.Equal(mustEncode(t, l), b) {
		t.Fatalf("Decode takes %x, Encode writes %x", b, mustEncode(t, l))
	}
	if !bytes.Equal(b, kept) {
		t.Fatal("Decode has changed what it was given")
	}
	return ok
}

// P8.6 and P8.7: chunks that are cut, go on, have a bit turned, a bit behind the last one, or another count.
func TestP8_7(t *testing.T) {
	r := rand.New(rand.NewSource(87))
	lists := [][]api.Sample{nil, every(1), every(2), every(3), every(119), every(120), {{T: 5, V: theNaN}, {T: 6, V: stale}}}
	for range 40 {
		lists = append(lists, randomSamples(r, 1+r.Intn(20)))
	}
	turned, taken := 0, 0
	for _, l := range lists {
		b := mustEncode(t, l)
		for cut := range len(b) {
			if checkBytes(t, b[:cut]) {
				t.Errorf("%x cut at %d is a chunk", b, cut)
			}
		}
		for more := range 256 {
			if checkBytes(t, append(bytes.Clone(b), byte(more))) {
				t.Errorf("%x with %x is a chunk", b, more)
			}
		}
		for i := range 8 * len(b) {
			x := bytes.Clone(b)
			x[i/8] ^= 128 >> (i % 8)
			turned++
			if checkBytes(t, x) {
				taken++
			}
		}
		for _, n := range []int{0, 1, 2, len(l) - 1, len(l) + 1, 120, 121, 256, 65535} {
			if n == len(l) || n < 0 {
				continue
			}
			x := bytes.Clone(b)
			x[0], x[1] = byte(n>>8), byte(n)
			checkBytes(t, x)
		}
	}
	if taken == 0 || taken == turned {
		t.Error("turned bits", taken, "of", turned)
	}
}

// Bits that are no 0 behind the last one: of these chunks the last byte has one bit, and two for each sample from the third on.
func TestP8_6_Padding(t *testing.T) {
	for n := 2; n <= 5; n++ {
		l := every(n)
		for i := range l {
			l[i].V = 1
		}
		b := mustEncode(t, l)
		for i := 1 + 2*(n-2); i < 8; i++ {
			x := bytes.Clone(b)
			x[len(x)-1] |= 128 >> i
			if got, e := Decode(x); got != nil || e != api.ErrForm {
				t.Errorf("%d samples, bit %d: %d", n, i, e)
			}
		}
	}
}

// Forms that say what they say, but are not the only ones.
func TestP8_6_OtherForms(t *testing.T) {
	one := inBits(1, 16)
	two := inBits(2, 16)
	three := inBits(3, 16)
	v := inBits(math.Float64bits(1), 64)
	zeros := inBits(0, 64)
	for _, x := range []struct {
		what string
		s    string
		ok   bool
	}{
		{"one sample", one + varintBits(5) + v, true},
		{"a time in more bytes than needed", one + "1000101000000000" + v, false},
		{"a time below 0", one + varintBits(-1) + v, false},
		{"a time of eleven bytes", one + string(bytes.Repeat([]byte("1"), 80)) + "00000000" + v, false},
		{"a time that is too large", one + varintBits(api.MaxTime+1) + v, false},
		{"the greatest time", one + varintBits(api.MaxTime) + v, true},
		{"the greatest of varint", one + varintBits(math.MaxInt64) + v, false},
		{"two samples", two + varintBits(5) + v + uvarintBits(1) + "0", true},
		{"a gap of 0", two + varintBits(5) + v + uvarintBits(0) + "0", false},
		{"a gap in more bytes than needed", two + varintBits(5) + v + "1000000100000000" + "0", false},
		{"a gap beyond the end", two + varintBits(5) + v + uvarintBits(api.MaxTime-4) + "0", false},
		{"a gap to the end", two + varintBits(5) + v + uvarintBits(api.MaxTime-5) + "0", true},
		{"a gap that wraps round", two + varintBits(5) + v + uvarintBits(math.MaxUint64) + "0", false},
		{"a gap that wraps round to more", two + varintBits(5) + v + uvarintBits(math.MaxUint64-3) + "0", false},
		{"a gap above all int64", two + varintBits(5) + v + uvarintBits(1<<63) + "0", false},
		{"a turn of 0 in 14 bits", three + varintBits(5) + v + uvarintBits(1) + "0" + "10" + inBits(0, 14) + "0", false},
		{"a turn of 1 in 14 bits", three + varintBits(5) + v + uvarintBits(1) + "0" + "10" + inBits(1, 14) + "0", true},
		{"a turn of 1 in 17 bits", three + varintBits(5) + v + uvarintBits(1) + "0" + "110" + inBits(1, 17) + "0", false},
		{"a turn of 1 in 20 bits", three + varintBits(5) + v + uvarintBits(1) + "0" + "1110" + inBits(1, 20) + "0", false},
		{"a turn of 1 in 64 bits", three + varintBits(5) + v + uvarintBits(1) + "0" + "1111" + inBits(1, 64) + "0", false},
		{"a turn of 0 in 64 bits", three + varintBits(5) + v + uvarintBits(1) + "0" + "1111" + zeros + "0", false},
		{"a turn of 524289 in 64 bits", three + varintBits(5) + v + uvarintBits(1) + "0" + "1111" + inBits(524289, 64) + "0", true},
		{"a turn to the same time", three + varintBits(5) + v + uvarintBits(1) + "0" + "10" + inBits(1<<14-1, 14) + "0", false},
		{"a turn that wraps round", three + varintBits(5) + v + uvarintBits(1) + "0" + "1111" + inBits(1<<63-1, 64) + "0", false},
		{"a turn far back", three + varintBits(5) + v + uvarintBits(1) + "0" + "1111" + inBits(1<<63, 64) + "0", false},
		{"the last window, where there is none", two + varintBits(5) + v + uvarintBits(1) + "10" + inBits(1, 64), false},
		{"the last window, where there is none, of no bits", two + varintBits(5) + v + uvarintBits(1) + "10", false},
		{"a window of its own", two + varintBits(5) + v + uvarintBits(1) + "11" + "00011" + "000010" + "11", true},
		{"a window that begins early", two + varintBits(5) + v + uvarintBits(1) + "11" + "00010" + "000011" + "011", false},
		{"a window that ends late", two + varintBits(5) + v + uvarintBits(1) + "11" + "00011" + "000011" + "110", false},
		{"a window of bits 0", two + varintBits(5) + v + uvarintBits(1) + "11" + "00011" + "000010" + "00", false},
		{"a window of 64 bits", two + varintBits(5) + v + uvarintBits(1) + "11" + "00000" + "000000" + "1" + zeros[2:] + "1", true},
		{"a window beyond the end", two + varintBits(5) + v + uvarintBits(1) + "11" + "00010" + "111111" + zeros[1:], false},
		{"a window of 64 bits behind one bit", two + varintBits(5) + v + uvarintBits(1) + "11" + "00001" + "000000" + zeros, false},
		{"the last window", three + varintBits(5) + v + uvarintBits(1) + "11" + "00011" + "000010" + "11" + "0" + "10" + "01", true},
		{"the last window, its bits 0", three + varintBits(5) + v + uvarintBits(1) + "11" + "00011" + "000010" + "11" + "0" + "10" + "00", false},
		{"one of its own where the last one would do", three + varintBits(5) + v + uvarintBits(1) + "11" + "00011" + "000010" + "11" + "0" + "11" + "00100" + "000001" + "1", false},
		{"none, and a stream", inBits(0, 16) + "00000000", false},
		{"256 samples", inBits(256, 16), false},
		{"more than 120 of two bits", inBits(121, 16) + varintBits(5) + v + uvarintBits(1) + "0" + string(bytes.Repeat([]byte("00"), 119)), false},
		{"120 of two bits", inBits(120, 16) + varintBits(5) + v + uvarintBits(1) + "0" + string(bytes.Repeat([]byte("00"), 118)), true},
	} {
		if ok := checkBytes(t, packed(x.s)); ok != x.ok {
			t.Errorf("%s: %v", x.what, ok)
		}
	}
	// Far more bytes than a stream may have.
	for _, head := range [][]byte{{0, 0}, {0, 120}, {255, 255}} {
		if l, e := Decode(append(head, bytes.Repeat([]byte{0xff}, api.MaxBits/8+1)...)); l != nil || e != api.ErrForm {
			t.Error("Decode of many bytes", e)
		}
	}
}

// P8.6: of different lists the bytes are different.
func TestP8_6_OneToOne(t *testing.T) {
	r := rand.New(rand.NewSource(86))
	seen := map[string][]api.Sample{}
	for range 20000 {
		var l []api.Sample
		t0 := int64(0)
		for range r.Intn(4) {
			t0 += 1 + int64(r.Intn(3))
			l = append(l, api.Sample{T: t0, V: oddFloats()[r.Intn(8)]})
		}
		b := string(mustEncode(t, l))
		if other, ok := seen[b]; ok && !sameSamples(other, l) {
			t.Fatalf("%v and %v are both %x", other, l, b)
		}
		seen[b] = l
	}
}

// P8.9: a sample as long behind the last one, with the same value, takes two bits.
func TestP8_9(t *testing.T) {
	for _, gap := range []int64{1, 1000, 15000, 1 << 43} {
		for _, v := range oddFloats() {
			c := New()
			c.Append(7, v)
			c.Append(7+gap, v)
			for i := int64(2); i < 100; i++ {
				before := c.stream.Len()
				if e := c.Append(7+i*gap, v); e != api.OK || c.stream.Len() != before+2 {
					t.Fatal("bits", c.stream.Len()-before, e)
				}
			}
		}
	}
}

func TestP8_3(t *testing.T) {
	l := []api.Sample{{T: 0, V: 1}, {T: 10, V: theNaN}, {T: 20, V: stale}, {T: 30, V: -0.5}, {T: api.MaxTime, V: 2}}
	b := mustEncode(t, l)
	ends := []int64{math.MinInt64, -1, 0, 1, 9, 10, 11, 20, 29, 30, 31, api.MaxTime - 1, api.MaxTime, api.MaxTime + 1, math.MaxInt64}
	for _, from := range ends {
		for _, to := range ends {
			var want []api.Sample
			for _, s := range l {
				if from <= s.T && s.T <= to {
					want = append(want, s)
				}
			}
			seq, e := Range(b, from, to)
			if e != api.OK || seq == nil {
				t.Fatal("Range", e)
			}
			for range 2 {
				var got []api.Sample
				for time, v := range seq {
					got = append(got, api.Sample{T: time, V: v})
				}
				if !sameSamples(got, want) {
					t.Errorf("Range(%d, %d) = %v, not %v", from, to, got, want)
				}
			}
		}
	}
	for _, wrong := range [][]byte{nil, {0}, {0, 1}, b[:len(b)-1], append(bytes.Clone(b), 0)} {
		if seq, e := Range(wrong, 0, 100); seq != nil || e != api.ErrForm {
			t.Error("Range of what is no chunk", e)
		}
		if seq, e := Range(wrong, 100, 0); seq != nil || e != api.ErrForm {
			t.Error("Range of what is no chunk", e)
		}
	}
	if seq, e := Range([]byte{0, 0}, 0, 100); e != api.OK {
		t.Error("Range of none", e)
	} else {
		for range seq {
			t.Error("Range of none tells one")
		}
	}
}

func TestP8_4_Split(t *testing.T) {
	for _, n := range []int{0, 1, 2, 119, 120, 121, 239, 240, 241, 1000} {
		l := every(n)
		chunks, e, at := Split(l)
		if e != api.OK || at != 0 || len(chunks) != (n+119)/120 {
			t.Fatal("Split of", n, len(chunks), e, at)
		}
		for i, b := range chunks {
			if !bytes.Equal(b, modelEncode(l[120*i:min(n, 120*i+120)])) {
				t.Errorf("Split of %d: chunk %d is %x", n, i, b)
			}
		}
		back, e, at := Join(chunks...)
		if e != api.OK || at != 0 || !sameSamples(back, l) {
			t.Error("Join of", n, len(back), e, at)
		}
	}
	if chunks, e, at := Split(nil); len(chunks) != 0 || e != api.OK || at != 0 {
		t.Error("Split(nil)", chunks, e, at)
	}
	// A fault far behind, at the beginning of a chunk and within one, where a chunk of its own would take it.
	for _, at := range []int{119, 120, 121, 239, 240, 299} {
		for _, x := range []struct {
			t int64
			e api.Errno
		}{{-1, api.ErrArg}, {api.MaxTime + 1, api.ErrArg}, {int64(1000 * (at - 1)), api.ErrOld}, {0, api.ErrOld}} {
			l := every(300)
			l[at].T = x.t
			if chunks, e, n := Split(l); chunks != nil || e != x.e || n != at {
				t.Errorf("Split with %d at %d = %d %d", x.t, at, e, n)
			}
		}
	}
}

func TestP8_4_Join(t *testing.T) {
	enc := func(times ...int64) []byte {
		var l []api.Sample
		for _, time := range times {
			l = append(l, api.Sample{T: time, V: float64(time)})
		}
		return mustEncode(t, l)
	}
	none := []byte{0, 0}
	for _, x := range []struct {
		l     [][]byte
		times []int64
		e     api.Errno
		at    int
	}{
		{nil, nil, api.OK, 0},
		{[][]byte{none}, nil, api.OK, 0},
		{[][]byte{none, none}, nil, api.OK, 0},
		{[][]byte{enc(1, 2)}, []int64{1, 2}, api.OK, 0},
		{[][]byte{enc(1, 2), enc(3), enc(4, 9)}, []int64{1, 2, 3, 4, 9}, api.OK, 0},
		{[][]byte{none, enc(1, 2), none, enc(3), none}, []int64{1, 2, 3}, api.OK, 0},
		{[][]byte{enc(1, 2), enc(2)}, nil, api.ErrOld, 1},
		{[][]byte{enc(1, 2), none, enc(2)}, nil, api.ErrOld, 2},
		{[][]byte{enc(1, 2), none, none, enc(0, 5)}, nil, api.ErrOld, 3},
		{[][]byte{enc(0), enc(0)}, nil, api.ErrOld, 1},
		{[][]byte{enc(5), enc(1, 9)}, nil, api.ErrOld, 1},
		{[][]byte{enc(5), enc(6), enc(6), nil}, nil, api.ErrOld, 2},
		{[][]byte{enc(5), enc(6), nil, enc(6)}, nil, api.ErrForm, 2},
		{[][]byte{nil}, nil, api.ErrForm, 0},
		{[][]byte{{0}, none}, nil, api.ErrForm, 0},
		{[][]byte{none, {0, 1}}, nil, api.ErrForm, 1},
		{[][]byte{enc(5, 6), enc(1, 2)[:5]}, nil, api.ErrForm, 1},
	} {
		got, e, at := Join(x.l...)
		var times []int64
		for _, s := range got {
			times = append(times, s.T)
			if s.V != float64(s.T) {
				t.Error("a value", s)
			}
		}
		if e != x.e || at != x.at || !slices.Equal(times, x.times) || e != api.OK && got != nil {
			t.Errorf("Join(%x) = %v %d %d, not %v %d %d", x.l, times, e, at, x.times, x.e, x.at)
		}
	}
	if l, e, at := Join(); len(l) != 0 || e != api.OK || at != 0 {
		t.Error("Join()", l, e, at)
	}
	full := mustEncode(t, every(120))
	if l, e, _ := Join(full, enc(200000)); e != api.OK || len(l) != 121 {
		t.Error("Join of more than a chunk", e)
	}
}

func TestP8_8(t *testing.T) {
	r := rand.New(rand.NewSource(88))
	for range 200 {
		l := randomSamples(r, r.Intn(500))
		if len(l) > 0 && l[len(l)-1].T > api.MaxTime {
			continue
		}
		chunks, e, at := Split(l)
		if e != api.OK || at != 0 {
			t.Fatal("Split", e, at)
		}
		if back, e, at := Join(chunks...); e != api.OK || at != 0 || !sameSamples(back, l) {
			t.Fatal("Join", e, at)
		}
	}
}

// Iterators may be left early, gone through again, and within one another; they tell what was there when they were asked.
func TestIterators(t *testing.T) {
	c := New()
	for _, s := range every(10) {
		c.Append(s.T, s.V)
	}
	seq := c.All()
	for range 2 {
		n := 0
		for time, v := range seq {
			if time != every(10)[n].T || v != every(10)[n].V {
				t.Error(time, v)
			}
			if n++; n == 4 {
				break
			}
		}
		if n != 4 {
			t.Error("left early", n)
		}
	}
	n := 0
	for range seq {
		c.Append(int64(100000+n), 1)
		for range seq {
			n++
		}
	}
	if n != 100 || c.Len() <= 10 {
		t.Error("gone through again", n, c.Len())
	}
	ranged, _ := Range(mustEncode(t, every(10)), 2000, 8000)
	for range 2 {
		var got []int64
		for time := range ranged {
			if got = append(got, time); time == 4000 {
				break
			}
		}
		if !slices.Equal(got, []int64{2000, 3000, 4000}) {
			t.Error("Range left early", got)
		}
	}
}

// Rules 4 and 5: nothing that is handed in is changed or kept, nothing that is answered is shared.
func TestMemory(t *testing.T) {
	c := New()
	for _, s := range every(5) {
		c.Append(s.T, s.V)
	}
	want := mustEncode(t, every(5))
	seq := c.All()
	b := c.Bytes()
	_ = append(b, 1, 2, 3)
	clear(b)
	if !bytes.Equal(c.Bytes(), want) || !sameSamples(inAll(c), every(5)) {
		t.Error("Bytes is shared")
	}
	n := 0
	for time := range seq {
		if time != int64(1000*n) {
			t.Error("All is shared", time)
		}
		n++
	}
	l := every(250)
	chunks, _, _ := Split(l)
	ranged, _ := Range(want, 0, 10000)
	samples, _ := Decode(want)
	joined, _, _ := Join(chunks...)
	if !sameSamples(l, every(250)) {
		t.Error("Split has changed what it was given")
	}
	kept := mustEncode(t, every(5))
	clear(want)
	clear(l)
	n = 0
	for time := range ranged {
		if time != int64(1000*n) {
			t.Error("Range keeps what it was given", time)
		}
		n++
	}
	if n != 5 || !sameSamples(samples, every(5)) || !sameSamples(joined, every(250)) {
		t.Error("Decode keeps what it was given")
	}
	for i := range chunks {
		_ = append(chunks[i], 1, 2, 3)
	}
	if again, e, _ := Join(chunks...); e != api.OK || !sameSamples(again, every(250)) {
		t.Error("chunks share memory", e)
	}
	clear(samples)
	if again, _ := Decode(kept); !sameSamples(again, every(5)) {
		t.Error("samples are shared")
	}
}

func FuzzChunk(f *testing.F) {
	r := rand.New(rand.NewSource(89))
	for _, n := range []int{0, 1, 2, 3, 10, 120} {
		b, _, _ := Encode(randomSamples(r, n))
		f.Add(b)
	}
	f.Fuzz(func(t *testing.T, b []byte) {
		if len(b) < 4096 {
			checkBytes(t, b)
		}
	})
}
