// Package parts reads the parts of a record one after another, as several layers write them: numbers, floats, texts, label sets.
package parts

import (
	"math"

	"tocsin/api"
	"tocsin/labels"
	"tocsin/vint"
)

// floatBytes is how many bytes a float has.
const floatBytes = 8

// Reader reads the parts of a record. Behind the first fault it reads no more: all is zero.
type Reader struct {
	b     []byte
	at    int
	fault api.Errno
}

// New answers a reader at the beginning of a record.
func New(b []byte) *Reader {
	return &Reader{b: b}
}

// Int reads a varint.
func (r *Reader) Int() int64 {
	if r.fault != api.OK {
		return 0
	}
	n, at, e := vint.I(r.b, r.at)
	r.at, r.fault = at, e
	return n
}

// Count reads a uvarint that is at most so great.
func (r *Reader) Count(most uint64) int {
	if r.fault != api.OK {
		return 0
	}
	n, at, e := vint.U(r.b, r.at)
	if e == api.OK && n > most {
		n, e = 0, api.ErrLarge
	}
	r.at, r.fault = at, e
	return int(n)
}

// Float reads the eight bytes of a float's bits, the lowest first.
func (r *Reader) Float() float64 {
	if r.fault == api.OK && len(r.b)-r.at < floatBytes {
		r.fault = api.ErrShort
	}
	if r.fault != api.OK {
		return 0
	}
	bits := uint64(0)
	for i := range floatBytes {
		bits |= uint64(r.b[r.at+i]) << (8 * i)
	}
	r.at += floatBytes
	return math.Float64frombits(bits)
}

// Text reads a text of at most so many bytes.
func (r *Reader) Text(most int) string {
	if r.fault != api.OK {
		return ""
	}
	s, at, e := vint.Text(r.b, r.at, most)
	r.at, r.fault = at, e
	return s
}

// Labels reads a label set.
func (r *Reader) Labels() []api.Label {
	if r.fault != api.OK {
		return nil
	}
	l, at, e := labels.Read(r.b, r.at)
	r.at, r.fault = at, e
	return l
}

// Done tells whether all was read, and nothing at fault.
func (r *Reader) Done() bool {
	return r.fault == api.OK && r.at == len(r.b)
}
