package vint

import (
	"bytes"
	"encoding/binary"
	"math"
	"math/big"
	"math/rand"
	"strings"
	"testing"
	"unicode/utf8"

	"tocsin/api"
)

// numbers: both sides of each number of bytes, and others.
func numbers() []uint64 {
	l := []uint64{0, 1, 2, 127, 128, 300, math.MaxUint64 - 1, math.MaxUint64}
	for k := 1; k < 64; k++ {
		l = append(l, 1<<k-1, 1<<k, 1<<k+1)
	}
	r := rand.New(rand.NewSource(1))
	for range 500 {
		l = append(l, r.Uint64()>>r.Intn(64))
	}
	return l
}

func signed() []int64 {
	l := []int64{math.MinInt64, math.MinInt64 + 1, math.MaxInt64, math.MaxInt64 - 1}
	for _, u := range numbers() {
		l = append(l, int64(u), -int64(u), int64(u>>1), -int64(u>>1))
	}
	return l
}

// modelU: U by the words of the document, the number a big one.
func modelU(b []byte, at int) (uint64, int, api.Errno) {
	if at < 0 || at > len(b) {
		return 0, 0, api.ErrArg
	}
	rest := b[at:]
	size := 0
	for i, c := range rest {
		if c < 0x80 {
			size = i + 1
			break
		}
	}
	if len(rest) >= 10 && (size == 0 || size >= 10) && rest[9] > 1 {
		return 0, 0, api.ErrLarge
	}
	if size == 0 {
		return 0, 0, api.ErrShort
	}
	n := new(big.Int)
	for i := size - 1; i >= 0; i-- {
		n.Lsh(n, 7).Or(n, big.NewInt(int64(rest[i]&0x7f)))
	}
	switch {
	case !n.IsUint64():
		return 0, 0, api.ErrLarge
	case size > 1 && rest[size-1] == 0:
		return 0, 0, api.ErrForm
	}
	return n.Uint64(), at + size, api.OK
}

func checkU(t *testing.T, b []byte, at int) {
	t.Helper()
	n, next, e := U(b, at)
	wn, wnext, we := modelU(b, at)
	if n != wn || next != wnext || e != we {
		t.Errorf("U(% x, %d) = %d %d %d, not %d %d %d", b, at, n, next, e, wn, wnext, we)
	}
	i, next, e := I(b, at)
	wi := int64(wn>>1) ^ -int64(wn&1)
	if i != wi || next != wnext || e != we {
		t.Errorf("I(% x, %d) = %d %d %d, not %d %d %d", b, at, i, next, e, wi, wnext, we)
	}
}

func TestP1_1_Put(t *testing.T) {
	for _, n := range numbers() {
		if got, want := PutU([]byte("ab"), n), binary.AppendUvarint([]byte("ab"), n); !bytes.Equal(got, want) {
			t.Errorf("PutU(%d) = % x, not % x", n, got, want)
		}
	}
	for _, n := range signed() {
		if got, want := PutI([]byte("ab"), n), binary.AppendVarint([]byte("ab"), n); !bytes.Equal(got, want) {
			t.Errorf("PutI(%d) = % x, not % x", n, got, want)
		}
	}
	for n, want := range map[int64]string{0: "\x00", -1: "\x01", 1: "\x02", -2: "\x03", -64: "\x7f", 64: "\x80\x01"} {
		if got := PutI(nil, n); string(got) != want {
			t.Errorf("PutI(%d) = % x", n, got)
		}
	}
}

func TestP1_1_Places(t *testing.T) {
	b := []byte{5, 6}
	for _, at := range []int{-1, 3, math.MinInt, math.MaxInt} {
		if n, next, e := U(b, at); n != 0 || next != 0 || e != api.ErrArg {
			t.Error("U", at, n, next, e)
		}
		if n, next, e := I(b, at); n != 0 || next != 0 || e != api.ErrArg {
			t.Error("I", at, n, next, e)
		}
	}
	if n, next, e := U(b, 1); n != 6 || next != 2 || e != api.OK {
		t.Error("U in the last byte", n, next, e)
	}
	if _, _, e := U(b, 2); e != api.ErrShort {
		t.Error("U at the end", e)
	}
	if _, _, e := U(nil, 0); e != api.ErrShort {
		t.Error("U of nil", e)
	}
	if _, _, e := U(nil, 1); e != api.ErrArg {
		t.Error("U outside of nil", e)
	}
}

func TestP1_1_Errors(t *testing.T) {
	nine := strings.Repeat("\xff", 9)
	zeros := strings.Repeat("\x80", 9)
	for _, c := range []struct {
		b string
		n uint64
		e api.Errno
	}{
		{"\x00", 0, api.OK},
		{"\x80\x01", 128, api.OK},
		{"\xac\x02", 300, api.OK},
		{nine + "\x01", math.MaxUint64, api.OK},
		{zeros + "\x01", 1 << 63, api.OK},
		{"\xff\xff\xff\xff\xff\xff\xff\xff\x7f", math.MaxInt64, api.OK},
		{"", 0, api.ErrShort},
		{"\x80", 0, api.ErrShort},
		{nine, 0, api.ErrShort},
		{zeros, 0, api.ErrShort},
		{"\x80\x00", 0, api.ErrForm},
		{"\xff\x00", 0, api.ErrForm},
		{"\x80\x80\x00", 0, api.ErrForm},
		{nine + "\x00", 0, api.ErrForm},
		{zeros + "\x00", 0, api.ErrForm},
		{nine + "\x02", 0, api.ErrLarge},
		{nine + "\x7f", 0, api.ErrLarge},
		{zeros + "\x80", 0, api.ErrLarge},
		{zeros + "\x81", 0, api.ErrLarge},
		{nine + "\xff", 0, api.ErrLarge},
		{zeros + "\x80\x00", 0, api.ErrLarge},
		{zeros + "\x80\x01", 0, api.ErrLarge},
		{nine + "\xff\xff\xff\xff\xff", 0, api.ErrLarge},
	} {
		want := 0
		if c.e == api.OK {
			want = len(c.b)
		}
		if n, next, e := U([]byte(c.b), 0); n != c.n || next != want || e != c.e {
			t.Errorf("U(% x) = %d %d %d", c.b, n, next, e)
		}
		checkU(t, []byte(c.b), 0)
	}
}

func TestP1_1_Model(t *testing.T) {
	for first := range 256 {
		for second := range 256 {
			checkU(t, []byte{byte(first), byte(second)}, 0)
			checkU(t, []byte{0x80, byte(first), byte(second), 1}, 0)
		}
		for ahead := range 13 {
			for _, filler := range []byte{0x80, 0xff, 0xa5} {
				b := append(bytes.Repeat([]byte{filler}, ahead), byte(first))
				checkU(t, b, 0)
				checkU(t, append(b, 0), 0)
				checkU(t, append(b, 1, 7), 0)
				checkU(t, append([]byte{9}, b...), 1)
			}
		}
	}
	r := rand.New(rand.NewSource(2))
	for range 20000 {
		b := make([]byte, r.Intn(24))
		for i := range b {
			b[i] = byte(r.Intn(256)) | byte(r.Intn(3)/2*0x80)
		}
		checkU(t, b, r.Intn(len(b)+3)-1)
	}
}

func TestP1_2(t *testing.T) {
	ten := PutText([]byte("x"), "0123456789")
	if string(ten) != "x\x0a0123456789" {
		t.Errorf("PutText = % x", ten)
	}
	if b := PutText(nil, "\xff"); string(b) != "\x01\xff" {
		t.Errorf("PutText puts any bytes: % x", b)
	}
	nine := strings.Repeat("\xff", 9)
	for _, c := range []struct {
		b    string
		at   int
		most int
		s    string
		next int
		e    api.Errno
	}{
		{string(ten), 1, 10, "0123456789", 12, api.OK},
		{string(ten), 1, 11, "0123456789", 12, api.OK},
		{string(ten), 1, math.MaxInt, "0123456789", 12, api.OK},
		{string(ten), 1, 9, "", 0, api.ErrSize},
		{string(ten), 1, 0, "", 0, api.ErrSize},
		{string(ten), 1, -1, "", 0, api.ErrArg},
		{string(ten), 1, math.MinInt, "", 0, api.ErrArg},
		{string(ten), -1, 10, "", 0, api.ErrArg},
		{string(ten), 13, 10, "", 0, api.ErrArg},
		{string(ten), 12, 10, "", 0, api.ErrShort},
		{string(ten[:11]), 1, 10, "", 0, api.ErrShort},
		{string(ten[:11]), 1, 9, "", 0, api.ErrSize},
		{"\x00", 0, 0, "", 1, api.OK},
		{"\x00tail", 0, 5, "", 1, api.OK},
		{"", 0, 5, "", 0, api.ErrShort},
		{"\x80", 0, 5, "", 0, api.ErrShort},
		{"\x81\x00a", 0, 5, "", 0, api.ErrForm},
		{nine + "\x02", 0, 5, "", 0, api.ErrLarge},
		{nine + "\x01a", 0, math.MaxInt, "", 0, api.ErrSize},
		{"\xff\xff\xff\xff\xff\xff\xff\xff\x7fa", 0, math.MaxInt, "", 0, api.ErrShort},
		{"\x80", 0, -1, "", 0, api.ErrArg},
		{"\x02a", 0, 1, "", 0, api.ErrSize},
		{"\x02\xff", 0, 2, "", 0, api.ErrShort},
		{"\x01\xff", 0, 1, "", 0, api.ErrUtf},
		{"\x01\x80", 0, 1, "", 0, api.ErrUtf},
		{"\x02\xc3\xa4", 0, 2, "ä", 3, api.OK},
		{"\x01\xc3\xa4", 0, 2, "", 0, api.ErrUtf},
		{"\x02\xc0\x80", 0, 9, "", 0, api.ErrUtf},
		{"\x03\xed\xa0\x80", 0, 9, "", 0, api.ErrUtf},
		{"\x04\xf4\x90\x80\x80", 0, 9, "", 0, api.ErrUtf},
		{"\x04\xf4\x8f\xbf\xbf", 0, 9, "\U0010ffff", 5, api.OK},
		{"\x03\xef\xbf\xbd", 0, 9, "\ufffd", 4, api.OK},
		{"\x03a\x00b", 0, 3, "a\x00b", 4, api.OK},
	} {
		s, next, e := Text([]byte(c.b), c.at, c.most)
		if s != c.s || next != c.next || e != c.e {
			t.Errorf("Text(% x, %d, %d) = %q %d %d", c.b, c.at, c.most, s, next, e)
		}
	}
	long := strings.Repeat("ä", 40000)
	if s, next, e := Text(PutText(nil, long), 0, 80000); s != long || next != 80003 || e != api.OK {
		t.Error("a long text", len(s), next, e)
	}
}

// What is put is read again; what U reads, PutU writes.
func TestP1_6(t *testing.T) {
	for _, ahead := range []string{"", "a", "\xff\xff"} {
		b := []byte(ahead)
		for _, n := range numbers() {
			l := append(PutU(b, n), 0x80)
			if m, next, e := U(l, len(b)); m != n || next != len(l)-1 || e != api.OK {
				t.Error("U", n, m, next, e)
			}
		}
		for _, n := range signed() {
			l := append(PutI(b, n), 0x80)
			if m, next, e := I(l, len(b)); m != n || next != len(l)-1 || e != api.OK {
				t.Error("I", n, m, next, e)
			}
		}
		for _, s := range []string{"", "a", "äöü\U0001f514", strings.Repeat("z", 127), strings.Repeat("z", 128)} {
			if got, next, e := Text(PutText(b, s), len(b), len(s)); got != s || next != len(PutText(b, s)) || e != api.OK {
				t.Error("Text", s, got, next, e)
			}
			l, e := PutFrame(b, []byte(s))
			if e != api.OK {
				t.Error("PutFrame", s, e)
			}
			if got, next, e := Frame(append(l, 1), len(b)); string(got) != s || next != len(l) || e != api.OK {
				t.Error("Frame", s, got, next, e)
			}
		}
	}
	r := rand.New(rand.NewSource(3))
	for range 20000 {
		b := make([]byte, r.Intn(12))
		r.Read(b)
		if n, next, e := U(b, 0); e == api.OK && !bytes.Equal(PutU(nil, n), b[:next]) {
			t.Errorf("PutU(U(% x)) = % x", b, PutU(nil, n))
		}
		if s, next, e := Text(b, 0, 12); e == api.OK && (!bytes.Equal(PutText(nil, s), b[:next]) || !utf8.ValidString(s)) {
			t.Errorf("PutText(Text(% x)) = % x", b, PutText(nil, s))
		}
	}
}

// Numbers nearer to 0 take no more bytes.
func TestP1_7(t *testing.T) {
	for _, n := range signed() {
		b := PutI(nil, n)
		switch {
		case n >= 0 && !bytes.Equal(b, PutU(nil, 2*uint64(n))):
			t.Errorf("PutI(%d) = % x", n, b)
		case n < 0 && !bytes.Equal(b, PutU(nil, 2*uint64(-n)-1)):
			t.Errorf("PutI(%d) = % x", n, b)
		case n > 0 && len(PutI(nil, n-1)) > len(b), n < 0 && len(PutI(nil, n+1)) > len(b):
			t.Errorf("nearer to 0 than %d takes more", n)
		}
	}
}

// Rules 3 to 5: what is handed in stays as it is, what is answered is new memory.
func TestPutIsNewMemory(t *testing.T) {
	puts := map[string]func(b []byte) []byte{
		"PutU":     func(b []byte) []byte { return PutU(b, 1<<60) },
		"PutI":     func(b []byte) []byte { return PutI(b, -1<<60) },
		"PutText":  func(b []byte) []byte { return PutText(b, "text") },
		"PutFrame": func(b []byte) []byte { l, _ := PutFrame(b, []byte("frame")); return l },
	}
	for name, put := range puts {
		whole := []byte("abc.................................")
		l := put(whole[:3])
		if string(whole) != "abc................................." {
			t.Error(name, "writes behind what is handed in")
		}
		again := put(whole[:3])
		if !bytes.HasPrefix(l, []byte("abc")) || !bytes.Equal(l, again) {
			t.Errorf("%s: % x, % x", name, l, again)
		}
		for i := range l {
			l[i] = 'z'
		}
		_ = append(l, "zzzz"...)
		if string(whole[:3]) != "abc" || !bytes.Equal(again, put(whole[:3])) {
			t.Error(name, "shares memory")
		}
		whole[0] = 'y'
		if again[0] != 'a' {
			t.Error(name, "keeps what is handed in")
		}
		if !bytes.Equal(put(nil), put([]byte{})) || !bytes.Equal(put(nil), again[3:]) {
			t.Error(name, "takes nil for another list than an empty one")
		}
	}
}
