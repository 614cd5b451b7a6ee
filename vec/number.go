package vec

import (
	"math"

	"tocsin/api"
)

const (
	theNaN        = 0x7ff8000000000001 // its bits
	greatestPower = 1024               // the greatest size of what a number is raised to
)

// Arith answers what one of + - * / % ^ makes of two numbers.
func Arith(op int, a, b float64) (float64, api.Errno) {
	if !reckons(op) {
		return 0, api.ErrOp
	}
	of := arithmetic()[op-api.OAdd]
	return told(of(pair{a, b})), api.OK
}

// Holds tells whether a comparison holds of two numbers.
func Holds(op int, a, b float64) (bool, api.Errno) {
	if !compares(op) {
		return false, api.ErrOp
	}
	of := comparisons()[op-api.OEq]
	return of(pair{a, b}), api.OK
}

func reckons(op int) bool {
	return op >= api.OAdd && op <= api.OPow
}

func compares(op int) bool {
	return op >= api.OEq && op <= api.OLe
}

// told answers v, and the NaN for each other one that is no number.
func told(v float64) float64 {
	if math.IsNaN(v) {
		return math.Float64frombits(theNaN)
	}
	return v
}

// pair is the number ahead of an operator and the one behind it.
type pair struct{ a, b float64 }

// arithmetic answers the operators + to ^, in api's order.
func arithmetic() []func(pair) float64 {
	return []func(pair) float64{pair.sum, pair.difference, pair.product, pair.quotient, pair.rest, pair.power}
}

// comparisons answers the operators == to <=, in api's order.
func comparisons() []func(pair) bool {
	return []func(pair) bool{pair.equal, pair.unequal, pair.above, pair.below, pair.notBelow, pair.notAbove}
}

func (p pair) sum() float64        { return p.a + p.b }
func (p pair) difference() float64 { return p.a - p.b }

// product is rounded here, so that no sum elsewhere is made one operation with it.
func (p pair) product() float64  { return float64(p.a * p.b) }
func (p pair) quotient() float64 { return p.a / p.b }

// rest: the library's is exact, has the sign of a, and is no number just where the document asks for that.
func (p pair) rest() float64 { return math.Mod(p.a, p.b) }

// power multiplies one by one, since each product is rounded.
func (p pair) power() float64 {
	size := math.Abs(p.b)
	if !(size <= greatestPower) || size != float64(int(size)) {
		return math.Float64frombits(theNaN)
	}
	v := 1.0
	for range int(size) {
		v *= p.a
	}
	if p.b < 0 {
		return 1 / v
	}
	return v
}

func (p pair) equal() bool    { return p.a == p.b }
func (p pair) unequal() bool  { return p.a != p.b }
func (p pair) above() bool    { return p.a > p.b }
func (p pair) below() bool    { return p.a < p.b }
func (p pair) notBelow() bool { return p.a >= p.b }
func (p pair) notAbove() bool { return p.a <= p.b }
