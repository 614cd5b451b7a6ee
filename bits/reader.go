package bits

import "tocsin/api"

// Reader is a stream that is read.
type Reader struct {
	bytes []byte
	at    int // the next bit
	size  int // in bits
}

// NewReader answers the stream of the first so many bits of b; nil, if there can not be one.
func NewReader(b []byte, bits int) *Reader {
	if bits < 0 || bits > api.MaxBits || (bits+7)/8 > len(b) {
		return nil
	}
	kept := make([]byte, (bits+7)/8)
	copy(kept, b)
	return &Reader{bytes: kept, size: bits}
}

// Bit reads one bit.
func (r *Reader) Bit() (bool, api.Errno) {
	v, e := r.Bits(1)
	return v == 1, e
}

// Bits reads n bits, the first one the highest.
func (r *Reader) Bits(n int) (uint64, api.Errno) {
	switch {
	case r == nil:
		return 0, api.ErrNil
	case n < 0 || n > 64:
		return 0, api.ErrArg
	case n > r.Left():
		return 0, api.ErrShort
	}
	v := r.look(r.at, n)
	r.at += n
	return v, api.OK
}

// Int reads the number whose form comes next.
func (r *Reader) Int() (int64, api.Errno) {
	if r == nil {
		return 0, api.ErrNil
	}
	row, e := r.row()
	if e != api.OK {
		return 0, e
	}
	ahead, width := headBits(row), widths[row]
	if ahead+width > r.Left() {
		return 0, api.ErrShort
	}
	n := number(r.look(r.at+ahead, width), width)
	if rowOf(n) < row {
		return 0, api.ErrForm
	}
	r.at += ahead + width
	return n, api.OK
}

// Left answers how many bits are left.
func (r *Reader) Left() int {
	if r == nil {
		return 0
	}
	return r.size - r.at
}

// row answers the row of the form that comes next, and reads nothing.
func (r *Reader) row() (int, api.Errno) {
	row := 0
counting:
	for row < lastRow {
		switch {
		case row == r.Left():
			return 0, api.ErrShort
		case r.look(r.at+row, 1) == 0:
			break counting
		default:
			row++
		}
	}
	return row, api.OK
}

// look answers the n bits (at most 64) at the place at; they are all there.
func (r *Reader) look(at, n int) uint64 {
	first, skip := at/8, at%8
	v := eight(r.bytes[first:]) << skip
	if n > 64-skip {
		v |= uint64(r.bytes[first+8]) >> (8 - skip)
	}
	return v >> (64 - n)
}

// eight answers the first eight bytes of b as one number, the first one the highest. The last bytes of a stream may be fewer: what is missing is 0.
func eight(b []byte) uint64 {
	var v uint64
	switch min(len(b), 8) {
	case 8:
		v = uint64(b[7])
		fallthrough
	case 7:
		v |= uint64(b[6]) << 8
		fallthrough
	case 6:
		v |= uint64(b[5]) << 16
		fallthrough
	case 5:
		v |= uint64(b[4]) << 24
		fallthrough
	case 4:
		v |= uint64(b[3]) << 32
		fallthrough
	case 3:
		v |= uint64(b[2]) << 40
		fallthrough
	case 2:
		v |= uint64(b[1]) << 48
		fallthrough
	case 1:
		v |= uint64(b[0]) << 56
	}
	return v
}
