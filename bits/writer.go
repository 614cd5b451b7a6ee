package bits

import "tocsin/api"

// Writer is a stream that is written. The bits of its last byte that are not written yet are 0.
type Writer struct {
	bytes []byte
	size  int // in bits
}

// NewWriter answers the empty stream.
func NewWriter() *Writer {
	return &Writer{}
}

// Bit writes one bit.
func (w *Writer) Bit(b bool) api.Errno {
	if b {
		return w.Bits(1, 1)
	}
	return w.Bits(0, 1)
}

// Bits writes the n lowest bits of v, the highest first; v has no other ones.
func (w *Writer) Bits(v uint64, n int) api.Errno {
	switch {
	case w == nil:
		return api.ErrNil
	case n < 0 || n > 64 || v>>n != 0:
		return api.ErrArg
	case !w.hasRoom(n):
		return api.ErrFull
	}
	w.put(v, n)
	return api.OK
}

// Int writes the form of n.
func (w *Writer) Int(n int64) api.Errno {
	if w == nil {
		return api.ErrNil
	}
	row := rowOf(n)
	if !w.hasRoom(headBits(row) + widths[row]) {
		return api.ErrFull
	}
	w.put(head(row), headBits(row))
	w.put(uint64(n), widths[row])
	return api.OK
}

// Len answers how many bits the stream has.
func (w *Writer) Len() int {
	if w == nil {
		return 0
	}
	return w.size
}

// Bytes answers the stream's bytes.
func (w *Writer) Bytes() []byte {
	if w == nil {
		return nil
	}
	out := make([]byte, len(w.bytes))
	copy(out, w.bytes)
	return out
}

func (w *Writer) hasRoom(n int) bool {
	return n <= api.MaxBits-w.size
}

// put writes the n lowest bits of v, whatever the others are, piece by piece, each as long as the last byte has room.
func (w *Writer) put(v uint64, n int) {
	for n > 0 {
		free := 8*len(w.bytes) - w.size
		if free == 0 {
			w.bytes = append(w.bytes, 0)
			free = 8
		}
		k := min(free, n)
		n -= k
		// Up to the byte's upper end, so that all but the piece falls out; then down to where it is free.
		w.bytes[len(w.bytes)-1] |= byte(v>>n) << (8 - k) >> (8 - free)
		w.size += k
	}
}
