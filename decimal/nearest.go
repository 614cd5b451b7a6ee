// Package decimal turns decimal digits into floats, and floats into decimal digits, without a fault in the last place. The layers that read and write numbers share it.
package decimal

import (
	"math"
	"strings"
)

// The form of a float64: below a power of two (from leastPower on) stand fraction bits.
const (
	fraction   = 52
	leastPower = -1022
	infinity   = 0x7ff << fraction // the bits of +Inf
)

// A number whose first digit stands for ten to more than greatestTen is too large for every float64, one below leastTen too small.
const (
	greatestTen = 308
	leastTen    = -324
)

// enough digits, from the first that is not 0 on, tell on which side of each half between two floats a number lies, since no half has as many.
const enough = 800

// Nearest answers the float64 that is nearest to the digits (signs from 0 to 9, any number of them) times ten to the exponent, ties to even: 0, if that is too small, +Inf, if it is too large.
func Nearest(digits string, exponent int) float64 {
	digits = strings.TrimLeft(digits, "0")
	switch first := len(digits) - 1; {
	case digits == "" || exponent < leastTen-first:
		return 0
	case exponent > greatestTen-first:
		return math.Inf(1)
	}
	if len(digits) > enough {
		digits, exponent = shortened(digits, exponent)
	}
	var top natural
	for i := range len(digits) {
		top.times(10, uint32(digits[i]-'0'))
	}
	bottom := of(1)
	for range exponent {
		top.times(10, 0)
	}
	for range -exponent {
		bottom.times(10, 0)
	}
	return nearestRatio(top, bottom)
}

// shortened answers a number of fewer digits that is rounded likewise: of those that it leaves out matters only whether they are all 0.
func shortened(digits string, exponent int) (string, int) {
	kept := digits[:enough]
	if strings.Trim(digits[enough:], "0") != "" {
		kept += "1"
	}
	return kept, exponent + len(digits) - len(kept)
}

// nearestRatio answers the float64 that is nearest to top divided by bottom, which are not 0.
func nearestRatio(top, bottom natural) float64 {
	// By their lengths top is more than bottom times 2^power, and less than four times that.
	power := max(top.length()-bottom.length()-1, leastPower)
	if power >= 0 {
		bottom = bottom.shifted(power)
	} else {
		top = top.shifted(-power)
	}
	if twice := bottom.shifted(1); top.compare(twice) >= 0 {
		bottom = twice
		power++
	}
	// The power stands above the fraction, whose highest bit, but of the least floats, is 1, and counts as one of it; so does one that rounding carries.
	all := uint64(power-leastPower)<<fraction + rounded(top, bottom)
	return math.Float64frombits(min(all, infinity))
}

// rounded answers top divided by bottom, which is less than 2, times 2^fraction, as the nearest whole number, ties to even. It uses up top.
func rounded(top, bottom natural) uint64 {
	q := uint64(0)
	for range fraction + 1 {
		q *= 2
		if top.compare(bottom) >= 0 {
			top.less(bottom)
			q++
		}
		top.times(2, 0)
	}
	// What is left of top is now twice what the whole number lacks.
	switch left := top.compare(bottom); {
	case left > 0, left == 0 && q%2 == 1:
		q++
	}
	return q
}
