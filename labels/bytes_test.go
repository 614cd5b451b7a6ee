package labels

import (
	"bytes"
	"math"
	"math/rand"
	"slices"
	"testing"

	"tocsin/api"
	"tocsin/vint"
)

// modelPut: the bytes of any list, right or not.
func modelPut(b []byte, l []api.Label) []byte {
	b = vint.PutU(b, uint64(len(l)))
	for _, one := range l {
		b = vint.PutText(b, one.Name)
		b = vint.PutText(b, one.Value)
	}
	return b
}

func TestP4_6_Put(t *testing.T) {
	for _, l := range anyLists() {
		for _, ahead := range []string{"", "x", "\x00\xff"} {
			e, _ := modelRight(l)
			b, got := Put([]byte(ahead), l)
			if got != e {
				t.Fatalf("Put(%q): %d, not %d", l, got, e)
			}
			if e != api.OK && b != nil || e == api.OK && !bytes.Equal(b, modelPut([]byte(ahead), l)) {
				t.Fatalf("Put(%q): %q", l, b)
			}
		}
	}
	if b, e := Put(nil, of("a", "1", "bc", "é")); e != api.OK || string(b) != "\x02\x01a\x011\x02bc\x02é" {
		t.Errorf("%q, %d", b, e)
	}
	if b, e := Put(nil, nil); e != api.OK || string(b) != "\x00" {
		t.Errorf("%q, %d", b, e)
	}
}

func TestP4_9_ReadOfPut(t *testing.T) {
	for _, l := range rightSets() {
		for _, ahead := range []string{"", "abc"} {
			b, _ := Put([]byte(ahead), l)
			if set, at, e := Read(b, len(ahead)); !same(set, l) || at != len(b) || e != api.OK {
				t.Errorf("Read of Put(%q): %q, %d, %d", l, set, at, e)
			}
			// What stands behind plays no part.
			if set, at, e := Read(append(b, 0xff, 1), len(ahead)); !same(set, l) || at != len(b) || e != api.OK {
				t.Errorf("Read of Put(%q): %q, %d, %d", l, set, at, e)
			}
		}
	}
}

// modelRead: by the words of the document.
func modelRead(b []byte, at int) ([]api.Label, int, api.Errno) {
	n, at, e := vint.U(b, at)
	if e != api.OK {
		return nil, 0, e
	}
	if n > 16 {
		return nil, 0, api.ErrFull
	}
	var l []api.Label
	for len(l) < int(n) {
		var texts [2]string
		for i, most := range []int{64, 256} {
			if texts[i], at, e = vint.Text(b, at, most); e != api.OK {
				return nil, 0, e
			}
		}
		l = append(l, api.Label{Name: texts[0], Value: texts[1]})
	}
	if e, _ := modelRight(l); e != api.OK {
		return nil, 0, e
	}
	return l, at, api.OK
}

func sameRead(t *testing.T, b []byte, at int) {
	t.Helper()
	want, to, e := modelRead(b, at)
	was := bytes.Clone(b)
	l, next, got := Read(b, at)
	if !same(l, want) || next != to || got != e || e != api.OK && l != nil {
		t.Fatalf("Read(%q, %d): %q, %d, %d, not %q, %d, %d", b, at, l, next, got, want, to, e)
	}
	if !bytes.Equal(b, was) {
		t.Fatalf("the bytes were changed: %q, %q", was, b)
	}
}

func TestP4_6_Read(t *testing.T) {
	long := modelPut(nil, of("a", "1"))
	for _, c := range []struct {
		b  []byte
		at int
		e  api.Errno
	}{
		{long, -1, api.ErrArg},
		{long, math.MinInt, api.ErrArg},
		{long, len(long) + 1, api.ErrArg},
		{long, math.MaxInt, api.ErrArg},
		{nil, 1, api.ErrArg},
		{nil, 0, api.ErrShort},
		{long, len(long), api.ErrShort},
		{[]byte{0x80, 0}, 0, api.ErrForm},
		{[]byte{0x81, 0, 1, 'a', 1, '1'}, 0, api.ErrForm},
		{bytes.Repeat([]byte{0xff}, 11), 0, api.ErrLarge},
		{[]byte{17}, 0, api.ErrFull},
		{vint.PutU(nil, math.MaxUint64), 0, api.ErrFull},
		{modelPut(nil, numbered(17)), 0, api.ErrFull},
		{[]byte{16}, 0, api.ErrShort},
		{[]byte{1, 65}, 0, api.ErrSize},
		{[]byte{1, 0x80, 0}, 0, api.ErrForm},
		{[]byte{1, 2, 'a'}, 0, api.ErrShort},
		{[]byte{1, 1, 0xff, 1, '1'}, 0, api.ErrUtf},
		{[]byte{1, 1, 'a'}, 0, api.ErrShort},
		{[]byte{1, 1, 'a', 1}, 0, api.ErrShort},
		{[]byte{1, 1, 'a', 1, 0xff}, 0, api.ErrUtf},
		{[]byte{1, 1, 'a', 0x81, 2}, 0, api.ErrSize},
		{[]byte{1, 1, 'a', 0x80, 2}, 0, api.ErrShort},
		{[]byte{2, 1, '-', 1, '1'}, 0, api.ErrShort},
		{modelPut(nil, of("-", "1")), 0, api.ErrName},
		{modelPut(nil, of("", "1")), 0, api.ErrName},
		{modelPut(nil, of("a", "")), 0, api.ErrLabel},
		{modelPut(nil, of("b", "1", "a", "2")), 0, api.ErrForm},
		{modelPut(nil, of("a", "1", "a", "1")), 0, api.ErrForm},
		{modelPut(nil, of(times("a", 65), "1")), 0, api.ErrSize},
		{modelPut(nil, of("a", times("v", 257))), 0, api.ErrSize},
	} {
		if l, at, e := Read(c.b, c.at); l != nil || at != 0 || e != c.e {
			t.Errorf("Read(%q, %d): %q, %d, %d, not %d", c.b, c.at, l, at, e, c.e)
		}
	}
	for _, l := range anyLists() {
		sameRead(t, modelPut(nil, l), 0)
	}
}

func TestP4_6_ReadCutAtEveryPlace(t *testing.T) {
	for _, l := range rightSets() {
		b := modelPut([]byte("x"), l)
		for n := 1; n < len(b); n++ {
			if set, at, e := Read(b[:n:n], 1); set != nil || at != 0 || e != api.ErrShort {
				t.Fatalf("Read(%q): %q, %d, %d", b[:n], set, at, e)
			}
		}
	}
}

func TestP4_6_ReadAsTheModel(t *testing.T) {
	r := rand.New(rand.NewSource(46))
	for range 20000 {
		b := modelPut(nil, anyLabels(r, 5))
		for range r.Intn(3) {
			b[r.Intn(len(b))] = byte(r.Intn(256))
		}
		sameRead(t, b[:r.Intn(len(b)+1)], r.Intn(3))
		sameRead(t, b, 0)
	}
}

func TestP4_6_Memory(t *testing.T) {
	in := append(make([]byte, 0, 64), "abc"...)
	l := of("a", "1")
	b, _ := Put(in, l)
	if !bytes.Equal(in[:cap(in)][3:], make([]byte, 61)) {
		t.Errorf("b was written behind its end: %q", in[:cap(in)])
	}
	c, _ := Put(in, l)
	for i := range b {
		b[i] = '!'
	}
	_ = append(b[:2], "!!!!"...)
	if string(in) != "abc" || string(c) != "abc\x01\x01a\x011" || !slices.Equal(l, of("a", "1")) {
		t.Errorf("memory is shared: %q, %q, %q", in, c, l)
	}
	set, _, _ := Read(c, 3)
	for i := range c {
		c[i] = '!'
	}
	if !same(set, l) {
		t.Errorf("Read keeps the bytes: %q", set)
	}
}

func FuzzRead(f *testing.F) {
	f.Add(modelPut(nil, of("a", "1", "b", "2")), 0)
	f.Add(modelPut([]byte("x"), numbered(16)), 1)
	f.Fuzz(sameRead)
}
