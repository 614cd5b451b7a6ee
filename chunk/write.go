package chunk

import (
	"math"
	mathbits "math/bits"

	"tocsin/api"
	"tocsin/vint"
)

// put writes a sample, which may stand behind the last one. The longest chunk is far below what a stream may have: the stream refuses nothing.
func (c *Chunk) put(s api.Sample) {
	switch c.past.count {
	case 0:
		c.putBytes(vint.PutI(nil, s.T))
		c.stream.Bits(math.Float64bits(s.V), 64)
	case 1:
		c.putBytes(vint.PutU(nil, uint64(s.T-c.past.last.T)))
		c.putValue(s.V)
	default:
		c.putTurn(s.T - c.past.last.T - c.past.gap)
		c.putValue(s.V)
	}
	c.past.add(s)
}

func (c *Chunk) putBytes(b []byte) {
	for _, x := range b {
		c.stream.Bits(uint64(x), 8)
	}
}

// putTurn writes by how much longer the gap is than the last one.
func (c *Chunk) putTurn(d int64) {
	form := formOf(d)
	for range form {
		c.stream.Bit(true)
	}
	if form < lastForm {
		c.stream.Bit(false)
	}
	width := turnWidths[form]
	c.stream.Bits(lowest(uint64(d), width), width)
}

// putValue writes which bits of the last value are turned in v.
func (c *Chunk) putValue(v float64) {
	turned := math.Float64bits(v) ^ math.Float64bits(c.past.last.V)
	c.stream.Bit(turned != 0)
	if turned != 0 {
		c.putTurned(turned)
	}
}

// putTurned writes the bits between in the last window, if they fit there, else in one of their own.
func (c *Chunk) putTurned(turned uint64) {
	own := window{
		there: true,
		lead:  min(mathbits.LeadingZeros64(turned), mostLead),
		tail:  mathbits.TrailingZeros64(turned),
	}
	fits := c.past.window.holds(own)
	c.stream.Bit(!fits)
	if !fits {
		c.stream.Bits(uint64(own.lead), leadBits)
		// 64 has no room in its bits, and is told as 0.
		c.stream.Bits(lowest(uint64(own.size()), sizeBits), sizeBits)
		c.past.window = own
	}
	c.stream.Bits(turned>>c.past.window.tail, c.past.window.size())
}

// lowest answers the n lowest bits of v.
func lowest(v uint64, n int) uint64 {
	return v << (64 - n) >> (64 - n)
}
