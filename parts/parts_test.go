package parts

import (
	"math"
	"slices"
	"testing"

	"tocsin/api"
)

// record is a number, a count, a text, a label set and a float, one behind the other.
const record = "\x03\x05\x02ab\x01\x01a\x011" + aFloat

// aFloat is the bits 0xfff8030201abcdef, the lowest byte first.
const aFloat = "\xef\xcd\xab\x01\x02\x03\xf8\xff"

// read reads the parts of a record, and tells whether they are right.
func read(r *Reader) bool {
	n, c, s, l, v := r.Int(), r.Count(5), r.Text(2), r.Labels(), r.Float()
	return n == -2 && c == 5 && s == "ab" && slices.Equal(l, []api.Label{{Name: "a", Value: "1"}}) && math.Float64bits(v) == 0xfff8030201abcdef
}

func TestReader(t *testing.T) {
	r := New([]byte(record))
	if r.Done() {
		t.Error("done ahead of the beginning")
	}
	if !read(r) || !r.Done() {
		t.Error(r)
	}
	if r := New(nil); !r.Done() {
		t.Error("nothing is not done")
	}
	if r := New([]byte(record + "\x00")); !read(r) || r.Done() {
		t.Error("a byte more is done")
	}
}

// TestReader_Cut: what ends too early is never done.
func TestReader_Cut(t *testing.T) {
	for n := range len(record) {
		if r := New([]byte(record[:n])); read(r) || r.Done() {
			t.Error(n)
		}
	}
}

// TestReader_Fault: behind a fault all is zero, whatever follows.
func TestReader_Fault(t *testing.T) {
	for _, x := range []struct {
		b     string
		fault func(r *Reader)
	}{
		{"\x80\x00" + record, func(r *Reader) { r.Int() }},
		{"\x80\x00" + record, func(r *Reader) { r.Count(5) }},
		{"\x06" + record, func(r *Reader) { r.Count(5) }},
		{"\x03abc" + record, func(r *Reader) { r.Text(2) }},
		{"\x01\xff" + record, func(r *Reader) { r.Text(2) }},
		{"\x01\x01a\x00" + record, func(r *Reader) { r.Labels() }},
		{"\x02\x01b\x011\x01a\x011" + record, func(r *Reader) { r.Labels() }},
		{aFloat[1:], func(r *Reader) { r.Float() }},
		{"", func(r *Reader) { r.Float() }},
	} {
		r := New([]byte(x.b))
		x.fault(r)
		if n, c, s, l, v := r.Int(), r.Count(5), r.Text(2), r.Labels(), r.Float(); n != 0 || c != 0 || s != "" || l != nil || v != 0 || r.Done() {
			t.Errorf("%q: %d, %d, %q, %v, %v", x.b, n, c, s, l, v)
		}
	}
}
