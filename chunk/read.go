package chunk

import (
	"iter"
	"math"

	"tocsin/api"
	"tocsin/bits"
	"tocsin/vint"
)

// countBytes is how many bytes ahead of the stream tell how many samples there are.
const countBytes = 2

// reader reads samples. Once a thing could not be read, it is at fault for good, and what it answers is of no matter.
type reader struct {
	stream *bits.Reader
	past   past
	fault  bool
}

// told goes through the samples that b tells, and tells ErrForm where it can not go on. It takes forms that are longer than need be.
func told(b []byte) iter.Seq2[api.Sample, api.Errno] {
	return func(yield func(api.Sample, api.Errno) bool) {
		if len(b) < countBytes {
			yield(api.Sample{}, api.ErrForm)
			return
		}
		stream := b[countBytes:len(b):len(b)]
		r := &reader{stream: bits.NewReader(stream, 8*len(stream))}
		for range int(b[0])<<8 | int(b[1]) {
			s := r.next()
			if r.fault {
				yield(api.Sample{}, api.ErrForm)
				return
			}
			if !yield(s, api.OK) {
				return
			}
		}
	}
}

// next reads the sample that comes next. Times may wrap round: who asks looks at them.
func (r *reader) next() api.Sample {
	var s api.Sample
	switch r.past.count {
	case 0:
		s.T = r.time()
		s.V = math.Float64frombits(r.take(64))
	case 1:
		s.T = r.past.last.T + r.gap()
		s.V = r.value()
	default:
		s.T = r.past.last.T + r.past.gap + r.turn()
		s.V = r.value()
	}
	r.past.add(s)
	return s
}

func (r *reader) time() int64 {
	t, _, e := vint.I(r.number(), 0)
	r.fault = r.fault || e != api.OK
	return t
}

func (r *reader) gap() int64 {
	n, _, e := vint.U(r.number(), 0)
	r.fault = r.fault || e != api.OK
	return int64(n)
}

// number reads the bytes of a number, up to the first without its highest bit. (A fault is a byte 0, and ends it.)
func (r *reader) number() []byte {
	var b []byte
	for {
		x := byte(r.take(8))
		b = append(b, x)
		if x < 0x80 {
			return b
		}
	}
}

// turn reads by how much longer the gap is than the last one.
func (r *reader) turn() int64 {
	form := 0
	for form < lastForm && r.take(1) == 1 {
		form++
	}
	width := turnWidths[form]
	return ofR(r.take(width), width)
}

// value reads which bits of the last value are turned.
func (r *reader) value() float64 {
	before := math.Float64bits(r.past.last.V)
	if r.take(1) == 1 {
		before ^= r.turned()
	}
	return math.Float64frombits(before)
}

func (r *reader) turned() uint64 {
	if r.take(1) == 1 {
		lead := int(r.take(leadBits))
		size := int(r.take(sizeBits))
		if size == 0 {
			size = 64
		}
		r.past.window = window{there: true, lead: lead, tail: 64 - lead - size}
	}
	w := r.past.window
	if !w.there || w.tail < 0 {
		r.fault = true
		return 0
	}
	return r.take(w.size()) << w.tail
}

// take reads n bits.
func (r *reader) take(n int) uint64 {
	v, e := r.stream.Bits(n)
	r.fault = r.fault || e != api.OK
	return v
}
