package bits

import (
	"bytes"
	"math"
	"math/rand"
	"strconv"
	"strings"
	"testing"

	"tocsin/api"
)

// rows: the table of the document, but its first row and its last one.
var rows = []struct {
	head string
	k    int
}{{"10", 3}, {"110", 6}, {"1110", 9}, {"11110", 12}, {"111110", 18}, {"1111110", 25}, {"11111110", 56}}

// low: the k lowest bits of n as digits.
func low(n uint64, k int) string {
	s := strconv.FormatUint(n, 2)
	s = strings.Repeat("0", 64-len(s)) + s
	return s[64-k:]
}

func inR(n int64, k int) bool {
	return -(int64(1)<<(k-1)-1) <= n && n <= 1<<(k-1)
}

// form: a number's form as digits, by the document's table.
func form(n int64) string {
	if n == 0 {
		return "0"
	}
	for _, r := range rows {
		if inR(n, r.k) {
			return r.head + low(uint64(n), r.k)
		}
	}
	return "11111111" + low(uint64(n), 64)
}

// pack: the bytes of digits.
func pack(digits string) []byte {
	var b []byte
	for i, c := range digits {
		if i%8 == 0 {
			b = append(b, 0)
		}
		if c == '1' {
			b[i/8] |= 0x80 >> (i % 8)
		}
	}
	return b
}

// edges: both bounds of each R(k), one beyond each, and others.
func edges() []int64 {
	l := []int64{0, 1, -1, math.MinInt64, math.MinInt64 + 1, math.MaxInt64, math.MaxInt64 - 1}
	for k := 1; k < 64; k++ {
		half := int64(1) << (k - 1)
		for d := int64(-2); d <= 2; d++ {
			l = append(l, half+d, -half+d)
		}
	}
	r := rand.New(rand.NewSource(1))
	for range 500 {
		n := int64(r.Uint64() >> r.Intn(64))
		l = append(l, n, -n)
	}
	return l
}

// written: the writer of digits.
func written(t *testing.T, digits string) *Writer {
	t.Helper()
	w := NewWriter()
	for _, c := range digits {
		if e := w.Bit(c == '1'); e != api.OK {
			t.Fatal("Bit", e)
		}
	}
	return w
}

// reader: the reader of digits, with bits behind them that are no part of the stream.
func reader(digits string) *Reader {
	return NewReader(pack(digits+"1111111111111111"), len(digits))
}

func sameStream(t *testing.T, what string, w *Writer, digits string) {
	t.Helper()
	if w.Len() != len(digits) || !bytes.Equal(w.Bytes(), pack(digits)) {
		t.Errorf("%s: %d bits, % x, not %s", what, w.Len(), w.Bytes(), digits)
	}
}

func TestNil(t *testing.T) {
	var w *Writer
	if w.Bit(true) != api.ErrNil || w.Bits(1, 1) != api.ErrNil || w.Bits(4, 2) != api.ErrNil || w.Bits(0, -1) != api.ErrNil || w.Int(0) != api.ErrNil {
		t.Error("a nil writer's errors")
	}
	if w.Len() != 0 || len(w.Bytes()) != 0 {
		t.Error("a nil writer's bits")
	}
	var r *Reader
	if b, e := r.Bit(); b || e != api.ErrNil {
		t.Error("Bit", b, e)
	}
	for _, n := range []int{-1, 0, 1, 65} {
		if v, e := r.Bits(n); v != 0 || e != api.ErrNil {
			t.Error("Bits", n, v, e)
		}
	}
	if n, e := r.Int(); n != 0 || e != api.ErrNil {
		t.Error("Int", n, e)
	}
	if r.Left() != 0 {
		t.Error("Left", r.Left())
	}
}

func TestExamples(t *testing.T) {
	w := NewWriter()
	if w == nil || w.Len() != 0 || len(w.Bytes()) != 0 {
		t.Fatal("NewWriter")
	}
	w.Bit(true)
	w.Bits(5, 3)
	if w.Len() != 4 || string(w.Bytes()) != "\xd0" {
		t.Errorf("%d % x", w.Len(), w.Bytes())
	}
	for n, digits := range map[int64]string{0: "0", 1: "10001", 4: "10100", -3: "10101", 5: "110000101", -4: "110111100"} {
		w := NewWriter()
		if e := w.Int(n); e != api.OK {
			t.Error("Int", n, e)
		}
		sameStream(t, "Int", w, digits)
	}
	if n, e := NewReader([]byte{0x80}, 8).Int(); n != 0 || e != api.ErrForm {
		t.Error("Int of 10 000", n, e)
	}
	if NewReader(nil, 1) != nil || NewWriter().Bits(4, 2) != api.ErrArg {
		t.Error("wrong arguments")
	}
}

func TestP2_1_Arguments(t *testing.T) {
	w := written(t, "101")
	for _, c := range []struct {
		v uint64
		n int
		e api.Errno
	}{
		{0, -1, api.ErrArg}, {0, 65, api.ErrArg}, {0, math.MinInt, api.ErrArg}, {0, math.MaxInt, api.ErrArg},
		{1, 0, api.ErrArg}, {math.MaxUint64, 0, api.ErrArg}, {2, 1, api.ErrArg}, {4, 2, api.ErrArg}, {256, 8, api.ErrArg},
		{1 << 63, 63, api.ErrArg}, {math.MaxUint64, 63, api.ErrArg},
		{0, 0, api.OK}, {0, 64, api.OK}, {1, 1, api.OK}, {255, 8, api.OK}, {1<<63 - 1, 63, api.OK}, {math.MaxUint64, 64, api.OK}, {1, 64, api.OK},
	} {
		before, size := w.Bytes(), w.Len()
		e := w.Bits(c.v, c.n)
		if e != c.e {
			t.Error("Bits", c.v, c.n, e)
		}
		if e != api.OK && (w.Len() != size || !bytes.Equal(w.Bytes(), before)) {
			t.Error("a refused Bits changes the stream", c.v, c.n)
		}
		if e == api.OK && w.Len() != size+c.n {
			t.Error("Bits", c.v, c.n, w.Len())
		}
	}
}

// At every place in a byte, every width, and values with their ends set and not.
func TestP2_1_Bits(t *testing.T) {
	for ahead := range 9 {
		for n := range 65 {
			for _, v := range []uint64{0, 1, math.MaxUint64, 0xa5c3_0f1e_9b77_d241, 1 << 63} {
				v = v << (64 - n) >> (64 - n)
				digits := strings.Repeat("10", 5)[:ahead]
				w := written(t, digits)
				if e := w.Bits(v, n); e != api.OK {
					t.Error("Bits", v, n, e)
				}
				sameStream(t, "Bits", w, digits+low(v, n))
				if e := w.Bit(true); e != api.OK {
					t.Error("Bit", e)
				}
				sameStream(t, "Bit behind Bits", w, digits+low(v, n)+"1")
			}
		}
	}
}

func TestP2_1_Int(t *testing.T) {
	for _, n := range edges() {
		for ahead := range 8 {
			digits := "1011010"[:ahead]
			w := written(t, digits)
			if e := w.Int(n); e != api.OK {
				t.Error("Int", n, e)
			}
			sameStream(t, "Int", w, digits+form(n))
		}
	}
}

// almostFull: a stream that has room for so many bits.
func almostFull(t *testing.T, room int) *Writer {
	t.Helper()
	w := NewWriter()
	for range api.MaxBits/64 - 2 {
		w.Bits(0x8000_0000_0000_0001, 64)
	}
	for range 128 - room {
		w.Bit(true)
	}
	if w.Len() != api.MaxBits-room {
		t.Fatal("Len", w.Len())
	}
	return w
}

func TestP2_1_Full(t *testing.T) {
	w := almostFull(t, 0)
	before := w.Bytes()
	if w.Len() != api.MaxBits || len(before) != api.MaxBits/8 {
		t.Fatal("MaxBits", w.Len(), len(before))
	}
	if w.Bit(false) != api.ErrFull || w.Bits(0, 1) != api.ErrFull || w.Bits(0, 64) != api.ErrFull || w.Int(0) != api.ErrFull || w.Int(7) != api.ErrFull {
		t.Error("a full stream takes more")
	}
	if w.Bits(0, 0) != api.OK || w.Bits(0, 65) != api.ErrArg || w.Bits(2, 1) != api.ErrArg {
		t.Error("a full stream's other answers")
	}
	if w.Len() != api.MaxBits || !bytes.Equal(w.Bytes(), before) {
		t.Error("refused, and something changes")
	}
	r := NewReader(before, api.MaxBits)
	if r.Left() != api.MaxBits {
		t.Error("a reader of MaxBits", r.Left())
	}
}

func TestP2_1_AlmostFull(t *testing.T) {
	for _, n := range []int64{0, 1, 5, 1 << 20, 1 << 50, math.MinInt64} {
		size := len(form(n))
		w := almostFull(t, size-1)
		before := w.Bytes()
		if e := w.Int(n); e != api.ErrFull || w.Len() != api.MaxBits-size+1 || !bytes.Equal(w.Bytes(), before) {
			t.Error("Int without room", n, e, w.Len())
		}
		w = almostFull(t, size)
		if e := w.Int(n); e != api.OK || w.Len() != api.MaxBits {
			t.Error("Int with room", n, e, w.Len())
		}
	}
	w := almostFull(t, 63)
	if w.Bits(0, 64) != api.ErrFull || w.Len() != api.MaxBits-63 {
		t.Error("Bits without room")
	}
	if w.Bits(0, 63) != api.OK || w.Len() != api.MaxBits || w.Bit(true) != api.ErrFull {
		t.Error("Bits with room")
	}
	w = almostFull(t, 1)
	if w.Bit(true) != api.OK || w.Bit(true) != api.ErrFull || w.Len() != api.MaxBits {
		t.Error("the last bit")
	}
}

func TestP2_2_New(t *testing.T) {
	b := []byte{0xff, 0xff}
	for _, bits := range []int{-1, 17, math.MinInt, math.MaxInt} {
		if NewReader(b, bits) != nil {
			t.Error("NewReader", bits)
		}
	}
	for bits := range 17 {
		if r := NewReader(b, bits); r == nil || r.Left() != bits {
			t.Error("NewReader", bits)
		}
	}
	if r := NewReader(nil, 0); r == nil || r.Left() != 0 {
		t.Error("NewReader of none")
	}
	large := make([]byte, api.MaxBits/8+1)
	if NewReader(large, api.MaxBits+1) != nil {
		t.Error("more than MaxBits")
	}
	if r := NewReader(large, api.MaxBits); r == nil || r.Left() != api.MaxBits {
		t.Error("MaxBits")
	}
}

func TestP2_2_Bits(t *testing.T) {
	r := rand.New(rand.NewSource(2))
	for range 3000 {
		var digits strings.Builder
		for range r.Intn(150) {
			digits.WriteByte("01"[r.Intn(2)])
		}
		s := digits.String()
		read := reader(s)
		for range 6 {
			n := r.Intn(68) - 1
			v, e := read.Bits(n)
			switch {
			case n < 0 || n > 64:
				if v != 0 || e != api.ErrArg {
					t.Error("Bits", n, v, e)
				}
			case n > len(s):
				if v != 0 || e != api.ErrShort {
					t.Error("Bits", n, v, e)
				}
			default:
				if want, _ := strconv.ParseUint("0"+s[:n], 2, 64); v != want || e != api.OK {
					t.Error("Bits", n, v, e, s)
				}
				s = s[n:]
			}
			if read.Left() != len(s) {
				t.Error("Left", read.Left(), len(s))
			}
		}
		for _, c := range s {
			if b, e := read.Bit(); b != (c == '1') || e != api.OK {
				t.Error("Bit", b, e)
			}
		}
		if b, e := read.Bit(); b || e != api.ErrShort || read.Left() != 0 {
			t.Error("Bit of none", b, e)
		}
		if v, e := read.Bits(0); v != 0 || e != api.OK {
			t.Error("Bits(0) at the end", v, e)
		}
		if n, e := read.Int(); n != 0 || e != api.ErrShort {
			t.Error("Int of none", n, e)
		}
	}
}

// A form that is cut anywhere is short, and nothing of it is read.
func TestP2_2_Short(t *testing.T) {
	for _, n := range edges() {
		digits := form(n)
		for cut := range len(digits) {
			r := reader("101" + digits[:cut])
			r.Bits(3)
			if m, e := r.Int(); m != 0 || e != api.ErrShort || r.Left() != cut {
				t.Error("Int", n, "cut at", cut, m, e, r.Left())
			}
		}
	}
	for ones := range 9 {
		r := reader(strings.Repeat("1", ones))
		if n, e := r.Int(); n != 0 || e != api.ErrShort || r.Left() != ones {
			t.Error("Int of ones", ones, n, e)
		}
	}
}

// Every number in every row: right in its first one that fits, ErrForm in each later one, and nothing read.
func TestP2_2_Rows(t *testing.T) {
	check := func(n int64, digits string) {
		t.Helper()
		r := reader("0" + digits + "0")
		r.Bit()
		m, e := r.Int()
		switch {
		case digits == form(n):
			if m != n || e != api.OK || r.Left() != 1 {
				t.Error("Int", n, m, e, r.Left())
			}
		case m != 0 || e != api.ErrForm || r.Left() != len(digits)+1:
			t.Error("Int of a longer form", n, digits, m, e, r.Left())
		}
	}
	for _, n := range edges() {
		for _, row := range rows {
			if inR(n, row.k) {
				check(n, row.head+low(uint64(n), row.k))
			}
		}
		check(n, "11111111"+low(uint64(n), 64))
	}
	for _, row := range rows[:4] {
		for v := range uint64(1) << row.k {
			n := int64(v)
			if v > 1<<(row.k-1) {
				n -= 1 << row.k
			}
			check(n, row.head+low(v, row.k))
		}
	}
}

// There and back: any calls, written and read in the same order; and in pieces as at once.
func TestP2_3_P2_6(t *testing.T) {
	r := rand.New(rand.NewSource(3))
	l := edges()
	for range 300 {
		w, pieces := NewWriter(), NewWriter()
		var digits strings.Builder
		var back []func(*Reader) bool
		for range r.Intn(60) {
			switch r.Intn(3) {
			case 0:
				b := r.Intn(2) == 1
				w.Bit(b)
				digits.WriteByte("01"[map[bool]int{true: 1}[b]])
				back = append(back, func(r *Reader) bool { got, e := r.Bit(); return got == b && e == api.OK })
			case 1:
				n := r.Intn(65)
				v := r.Uint64() << (64 - n) >> (64 - n)
				w.Bits(v, n)
				digits.WriteString(low(v, n))
				back = append(back, func(r *Reader) bool { got, e := r.Bits(n); return got == v && e == api.OK })
			case 2:
				n := l[r.Intn(len(l))]
				w.Int(n)
				digits.WriteString(form(n))
				back = append(back, func(r *Reader) bool { got, e := r.Int(); return got == n && e == api.OK })
			}
		}
		for _, c := range digits.String() {
			pieces.Bit(c == '1')
		}
		sameStream(t, "at once", w, digits.String())
		sameStream(t, "in pieces", pieces, digits.String())
		read := NewReader(w.Bytes(), w.Len())
		for i, call := range back {
			if !call(read) {
				t.Error("call", i)
			}
		}
		if read.Left() != 0 {
			t.Error("Left", read.Left())
		}
	}
}

// What Int reads, Int writes with the same bits.
func TestP2_4(t *testing.T) {
	r := rand.New(rand.NewSource(4))
	heads := 0xff00
	for range 30000 {
		b := make([]byte, 10)
		r.Read(b)
		b[0] |= byte(heads >> r.Intn(9))
		read := NewReader(b, 80)
		n, e := read.Int()
		if e != api.OK {
			continue
		}
		size := 80 - read.Left()
		w := NewWriter()
		w.Int(n)
		again := NewReader(b, 80)
		for range size / 8 {
			v, _ := again.Bits(8)
			if c := w.Bytes()[(80-again.Left())/8-1]; c != byte(v) {
				t.Errorf("Int(%d) = % x, read of % x", n, w.Bytes(), b)
			}
		}
		v, _ := again.Bits(size % 8)
		if w.Len() != size || size%8 > 0 && w.Bytes()[size/8]>>(8-size%8) != byte(v) {
			t.Errorf("Int(%d) = % x, read of % x", n, w.Bytes(), b)
		}
	}
}

// A number further from 0 on the same side has no shorter form.
func TestP2_5(t *testing.T) {
	size := func(n int64) int {
		w := NewWriter()
		w.Int(n)
		return w.Len()
	}
	for _, n := range edges() {
		nearer := n
		for nearer != 0 {
			if nearer > 0 {
				nearer--
			} else {
				nearer++
			}
			if size(nearer) > size(n) {
				t.Error("Int", n, nearer)
			}
			nearer /= 3
		}
	}
}

// A refused call changes nothing: of a writer and of a reader, whatever comes between.
func TestP2_7(t *testing.T) {
	w := written(t, "1100101")
	for _, n := range []int{-1, 65} {
		w.Bits(0, n)
	}
	w.Bits(8, 3)
	w.Int(-4)
	sameStream(t, "behind refused calls", w, "1100101"+"110111100")
	r := reader("10000" + "11")
	for range 2 {
		if _, e := r.Int(); e != api.ErrForm {
			t.Error("Int", e)
		}
		if _, e := r.Bits(8); e != api.ErrShort {
			t.Error("Bits(8)", e)
		}
		if _, e := r.Bits(65); e != api.ErrArg {
			t.Error("Bits(65)", e)
		}
		if _, e := r.Bits(-1); e != api.ErrArg {
			t.Error("Bits(-1)", e)
		}
	}
	if v, e := r.Bits(5); v != 16 || e != api.OK {
		t.Error("Bits", v, e)
	}
	if _, e := r.Int(); e != api.ErrShort || r.Left() != 2 {
		t.Error("Int", e, r.Left())
	}
	if v, e := r.Bits(2); v != 3 || e != api.OK {
		t.Error("Bits", v, e)
	}
}

// Rules 4 and 5: what is answered is new memory, what is handed in is neither changed nor kept.
func TestMemory(t *testing.T) {
	w := written(t, "10101010"+"1111")
	b := w.Bytes()
	b[0], b[1] = 0, 0
	_ = append(b, 9, 9, 9)
	sameStream(t, "behind a written answer", w, "10101010"+"1111")
	b = w.Bytes()
	w.Bits(15, 4)
	w.Bits(255, 8)
	if string(b) != "\xaa\xf0" {
		t.Errorf("an answer changes: % x", b)
	}
	in := []byte{0xaa, 0x55, 0x77}
	r, other := NewReader(in, 16), NewReader(in, 16)
	r.Bits(3)
	if string(in) != "\xaa\x55\x77" || other.Left() != 16 {
		t.Error("reading changes what was handed in")
	}
	in[0], in[1] = 0, 0
	if v, e := other.Bits(16); v != 0xaa55 || e != api.OK {
		t.Errorf("Bits = %x %d", v, e)
	}
	one, two := NewWriter(), NewWriter()
	one.Bit(true)
	if two.Len() != 0 || len(two.Bytes()) != 0 {
		t.Error("two writers are one")
	}
}

func FuzzBits(f *testing.F) {
	f.Add([]byte{0x80}, 8, 3)
	f.Add([]byte{0xff, 0xff, 0x80}, 20, 64)
	f.Add([]byte{}, -1, -1)
	f.Fuzz(func(t *testing.T, b []byte, bits int, n int) {
		kept := bytes.Clone(b)
		r := NewReader(b, bits)
		w := NewWriter()
		for r.Left() > 0 {
			if m, e := r.Int(); e == api.OK {
				w.Int(m)
				continue
			}
			if v, e := r.Bits(n); e == api.OK {
				w.Bits(v, n)
			}
			if v, e := r.Bit(); e == api.OK {
				w.Bit(v)
			}
		}
		got := w.Bytes()
		if r != nil && (w.Len() != bits || len(got) != (bits+7)/8) {
			t.Error("Len", w.Len(), bits)
		}
		for i := range w.Len() {
			if (got[i/8]^b[i/8])<<(i%8)&0x80 != 0 {
				t.Fatal("bit", i)
			}
		}
		if !bytes.Equal(b, kept) {
			t.Error("b is changed")
		}
	})
}
