package vint

import (
	"bytes"
	"math"
	"math/rand"
	"strings"
	"testing"

	"tocsin/api"
)

func frameOf(t *testing.T, b []byte, p string) []byte {
	t.Helper()
	l, e := PutFrame(b, []byte(p))
	if e != api.OK {
		t.Fatal("PutFrame", len(p), e)
	}
	return l
}

func TestP1_4_Put(t *testing.T) {
	if b := frameOf(t, nil, "a"); string(b) != "\x01\x30\x43\xd0\xc1a" {
		t.Errorf("PutFrame = % x", b)
	}
	if b := frameOf(t, []byte("xy"), "123456789"); string(b) != "xy\x09\x83\x92\x06\xe3123456789" {
		t.Errorf("PutFrame = % x", b)
	}
	if b := frameOf(t, nil, ""); string(b) != "\x00\x00\x00\x00\x00" {
		t.Errorf("PutFrame of none = % x", b)
	}
	most := bytes.Repeat([]byte("m"), api.MaxFrame+1)
	if l, e := PutFrame([]byte("x"), most); l != nil || e != api.ErrSize {
		t.Error("PutFrame of one more than MaxFrame", len(l), e)
	}
	l, e := PutFrame(nil, most[1:])
	if len(l) != 3+4+api.MaxFrame || e != api.OK {
		t.Error("PutFrame of MaxFrame", len(l), e)
	}
	if p, next, e := Frame(l, 0); !bytes.Equal(p, most[1:]) || next != len(l) || e != api.OK {
		t.Error("Frame of MaxFrame", len(p), next, e)
	}
}

func TestP1_4_Errors(t *testing.T) {
	a := string(frameOf(t, nil, "a"))
	for _, c := range []struct {
		b  string
		at int
		e  api.Errno
	}{
		{a, -1, api.ErrArg},
		{a, 7, api.ErrArg},
		{a, math.MinInt, api.ErrArg},
		{a, math.MaxInt, api.ErrArg},
		{a, 6, api.ErrShort},
		{"", 0, api.ErrShort},
		{"\x80", 0, api.ErrShort},
		{"\x80\x00", 0, api.ErrForm},
		{strings.Repeat("\xff", 10), 0, api.ErrLarge},
		{"\x01", 0, api.ErrShort},
		{"\x00", 0, api.ErrShort},
		{"\x00\x00\x00\x00", 0, api.ErrShort},
		{"\x00\x00\x00\x00\x01", 0, api.ErrSum},
		{"\x01\x30\x43\xd0\xc1", 0, api.ErrShort},
		{"\x01\x30\x43\xd0\xc1b", 0, api.ErrSum},
		{"\x01\xc1\xd0\x43\x30a", 0, api.ErrSum},
		{"\x81\x80\x04", 0, api.ErrSize},
		{"\x81\x80\x04" + strings.Repeat("m", api.MaxFrame+5), 0, api.ErrSize},
		{"\x80\x80\x04", 0, api.ErrShort},
		{"\x80\x80\x04" + strings.Repeat("m", api.MaxFrame+3), 0, api.ErrShort},
		{"\x80\x80\x04" + strings.Repeat("m", api.MaxFrame+4), 0, api.ErrSum},
		{strings.Repeat("\xff", 9) + "\x01", 0, api.ErrSize},
	} {
		if p, next, e := Frame([]byte(c.b), c.at); len(p) != 0 || next != 0 || e != c.e {
			t.Errorf("Frame(%.12q.., %d) = %q %d %d, not %d", c.b, c.at, p, next, e, c.e)
		}
	}
	if p, next, e := Frame([]byte("??"+a+a), 2); string(p) != "a" || next != 8 || e != api.OK {
		t.Error("Frame amid others", p, next, e)
	}
	if p, next, e := Frame([]byte{0, 0, 0, 0, 0}, 0); len(p) != 0 || next != 5 || e != api.OK {
		t.Error("Frame of none", p, next, e)
	}
}

func TestP1_5(t *testing.T) {
	a := string(frameOf(t, nil, "a"))
	none := string(frameOf(t, nil, ""))
	for _, c := range []struct {
		b     string
		whole []string
		at    int
		e     api.Errno
	}{
		{"", nil, 0, api.OK},
		{a, []string{"a"}, 6, api.OK},
		{a + none + a, []string{"a", "", "a"}, 17, api.OK},
		{none, []string{""}, 5, api.OK},
		{(a + a)[:11], []string{"a"}, 6, api.ErrShort},
		{a + "\x80", []string{"a"}, 6, api.ErrShort},
		{a + "\x80\x00" + a, []string{"a"}, 6, api.ErrForm},
		{a + strings.Repeat("\xff", 10) + a, []string{"a"}, 6, api.ErrLarge},
		{a + "\x81\x80\x04" + a, []string{"a"}, 6, api.ErrSize},
		{a + "\x01\x30\x43\xd0\xc1b" + a, []string{"a"}, 6, api.ErrSum},
		{"\x01\x30\x43\xd0\xc1b" + a, nil, 0, api.ErrSum},
		{"\x80", nil, 0, api.ErrShort},
	} {
		whole, at, e := Frames([]byte(c.b))
		if !sameTexts(whole, c.whole) || at != c.at || e != c.e {
			t.Errorf("Frames(%q) = %q %d %d", c.b, whole, at, e)
		}
	}
	if whole, at, e := Frames(nil); len(whole) != 0 || at != 0 || e != api.OK {
		t.Error("Frames(nil)", whole, at, e)
	}
}

func sameTexts(got [][]byte, want []string) bool {
	if len(got) != len(want) {
		return false
	}
	for i := range got {
		if string(got[i]) != want[i] {
			return false
		}
	}
	return true
}

// Cut anywhere, just the frames that are whole are told.
func TestP1_8(t *testing.T) {
	texts := []string{"a", "", "The bell", strings.Repeat("long ", 40), "", "end"}
	var b []byte
	ends := []int{0}
	for _, s := range texts {
		b = frameOf(t, b, s)
		ends = append(ends, len(b))
	}
	whole := 0
	for cut := range len(b) + 1 {
		for whole < len(texts) && ends[whole+1] <= cut {
			whole++
		}
		want := api.ErrShort
		if ends[whole] == cut {
			want = api.OK
		}
		l, at, e := Frames(b[:cut])
		if !sameTexts(l, texts[:whole]) || at != ends[whole] || e != want {
			t.Error("cut at", cut, len(l), at, e)
		}
	}
}

// One turned bit is told: of the content and of the sum always; of these frames' lengths too.
func TestP1_9_TurnedBit(t *testing.T) {
	r := rand.New(rand.NewSource(5))
	for _, size := range []int{0, 1, 2, 9, 127, 128, 300} {
		p := make([]byte, size)
		r.Read(p)
		b := frameOf(t, nil, string(p))
		for i := range 8 * len(b) {
			turned := bytes.Clone(b)
			turned[i/8] ^= 1 << (i % 8)
			got, next, e := Frame(turned, 0)
			if e == api.OK || got != nil || next != 0 {
				t.Error("bit", i, "of a frame of", size, next, e)
			}
			if i/8 >= len(b)-size-4 && e != api.ErrSum {
				t.Error("bit", i, "of a frame of", size, e)
			}
		}
	}
}

// Rules 3 to 5: frames that are read share no memory with the bytes nor with one another.
func TestFrameIsNewMemory(t *testing.T) {
	b := frameOf(t, frameOf(t, nil, "one"), "two")
	kept := bytes.Clone(b)
	p, _, _ := Frame(b, 0)
	l, _, _ := Frames(b)
	if !sameTexts([][]byte{p, l[0], l[1]}, []string{"one", "one", "two"}) {
		t.Fatal(p, l)
	}
	copy(l[0], "xxx")
	_ = append(l[0], "yyyyyyyyyyyyyyyy"...)
	_ = append(p, "zzzzzzzzzzzzzzzz"...)
	if string(p) != "one" || string(l[1]) != "two" || !bytes.Equal(b, kept) {
		t.Error("shared", p, l, b)
	}
	for i := range b {
		b[i] = 0
	}
	if string(p) != "one" || string(l[1]) != "two" {
		t.Error("kept", p, l)
	}
	again, _, _ := Frames(kept)
	if !sameTexts(again, []string{"one", "two"}) {
		t.Error("a later answer", again)
	}
	q := []byte("abc")
	f, _ := PutFrame(nil, q)
	q[0] = 'z'
	if got, _, e := Frame(f, 0); string(got) != "abc" || e != api.OK {
		t.Error("PutFrame keeps its content's memory", got, e)
	}
	text := PutText(nil, "abc")
	s, _, _ := Text(text, 0, 3)
	text[1] = 'z'
	if s != "abc" {
		t.Error("Text keeps its bytes", s)
	}
}

func FuzzVint(f *testing.F) {
	f.Add([]byte("\x01\x30\x43\xd0\xc1a"), 0, 1)
	f.Add([]byte("\xff\xff\xff\xff\xff\xff\xff\xff\xff\x01"), 0, math.MaxInt)
	f.Add([]byte("\x80\x00"), -1, -1)
	f.Fuzz(func(t *testing.T, b []byte, at int, most int) {
		kept := bytes.Clone(b)
		checkU(t, b, at)
		if s, next, e := Text(b, at, most); e == api.OK && !bytes.Equal(PutText(b[:at], s), b[:next]) {
			t.Error("Text", s, next)
		}
		if p, next, e := Frame(b, at); e == api.OK && !bytes.Equal(frameOf(t, b[:at], string(p)), b[:next]) {
			t.Error("Frame", p, next)
		}
		whole, next, e := Frames(b)
		var again []byte
		for _, p := range whole {
			again = frameOf(t, again, string(p))
		}
		if !bytes.Equal(again, b[:next]) || (e == api.OK) != (next == len(b)) {
			t.Error("Frames", next, e)
		}
		if !bytes.Equal(b, kept) {
			t.Error("b is changed")
		}
	})
}
