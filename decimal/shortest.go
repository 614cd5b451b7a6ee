package decimal

import "math"

// Shortest answers the fewest digits that are read as v, whose sign is of no matter, and the exponent: the first digit stands for ten to it. Of several so short it takes the nearest to v, of two so near the even one. Neither the first nor the last digit is 0, but of 0.
func Shortest(v float64) (string, int) {
	if v == 0 {
		return "0", 0
	}
	r := rangeOf(v)
	exponent := r.scale()
	var digits []byte
	for {
		d, last := r.digit()
		digits = append(digits, '0'+d)
		if last {
			return string(digits), exponent
		}
	}
}

// readRange is a float, and how far from it what is read as it may lie: all of them in parts of one unit, in which digits are counted.
type readRange struct {
	v     natural // less the digits that were told already
	above natural // half of the gap to the next float
	below natural // half of the gap to the one ahead
	unit  natural
	even  bool // what is half-way to another float is read as the one whose lowest bit is 0
}

func rangeOf(v float64) *readRange {
	all := math.Float64bits(v)
	power := int(all >> fraction & 0x7ff)
	n := all & (1<<fraction - 1)
	below := uint64(2)
	if n == 0 && power > 1 {
		// Ahead of a power of two the floats lie closer together.
		below = 1
	}
	if power > 0 {
		n |= 1 << fraction
		power--
	}
	// v is n times 2^(power + leastPower - fraction); a quarter of that is the greatest part that measures all.
	power += leastPower - fraction - 2
	up, down := max(power, 0), max(-power, 0)
	return &readRange{
		v:     of(4 * n).shifted(up),
		above: of(2).shifted(up),
		below: of(below).shifted(up),
		unit:  of(1).shifted(down),
		even:  n%2 == 0,
	}
}

// reaches: is a, the end of what is read as the float, at b or beyond it?
func (r *readRange) reaches(a, b natural) bool {
	c := a.compare(b)
	return c > 0 || c == 0 && r.even
}

// scale makes the unit the greatest power of ten that the range reaches, and answers its exponent.
func (r *readRange) scale() int {
	exponent := 0
	end := r.v.plus(r.above)
	for r.reaches(end, r.unit) {
		r.unit.times(10, 0)
		exponent++
	}
	for !r.reaches(end, r.unit) {
		end.times(10, 0)
		r.tenfold()
		exponent--
	}
	return exponent
}

// tenfold goes on to the next digit: what is left counts ten times as many units.
func (r *readRange) tenfold() {
	r.v.times(10, 0)
	r.above.times(10, 0)
	r.below.times(10, 0)
}

// digit answers the next digit, and whether it is the last one: what is told with it is in the range.
func (r *readRange) digit() (byte, bool) {
	d := byte(0)
	for r.v.compare(r.unit) >= 0 {
		r.v.less(r.unit)
		d++
	}
	down := r.reaches(r.below, r.v)
	up := r.reaches(r.v.plus(r.above), r.unit)
	if up && (!down || r.nearerUp(d)) {
		d++
	}
	r.tenfold()
	return d, down || up
}

// nearerUp: is the digit behind d nearer than d, or as near, and even?
func (r *readRange) nearerUp(d byte) bool {
	c := r.v.plus(r.v).compare(r.unit)
	return c > 0 || c == 0 && d%2 == 1
}
