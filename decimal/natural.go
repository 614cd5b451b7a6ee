package decimal

import (
	"cmp"
	"math/bits"
)

// natural is a whole number, not below 0: its digits to the base 2^32, the lowest first, the highest not 0.
type natural []uint32

func of(n uint64) natural {
	return natural{uint32(n), uint32(n >> 32)}.trimmed()
}

// trimmed answers the number without digits 0 above its highest.
func (a natural) trimmed() natural {
	for len(a) > 0 && a[len(a)-1] == 0 {
		a = a[:len(a)-1]
	}
	return a
}

// times makes the number so many times as great, and more greater.
func (a *natural) times(factor, more uint32) {
	carry := uint64(more)
	for i, d := range *a {
		carry += uint64(d) * uint64(factor)
		(*a)[i] = uint32(carry)
		carry >>= 32
	}
	if carry > 0 {
		*a = append(*a, uint32(carry))
	}
}

// less takes away b, which is not greater.
func (a *natural) less(b natural) {
	borrow := uint64(0)
	for i, d := range *a {
		left := uint64(d) - borrow
		if i < len(b) {
			left -= uint64(b[i])
		}
		(*a)[i] = uint32(left)
		borrow = left >> 63
	}
	*a = a.trimmed()
}

// plus answers the sum, as new memory.
func (a natural) plus(b natural) natural {
	if len(a) < len(b) {
		a, b = b, a
	}
	out := make(natural, 0, len(a)+1)
	carry := uint64(0)
	for i, d := range a {
		carry += uint64(d)
		if i < len(b) {
			carry += uint64(b[i])
		}
		out = append(out, uint32(carry))
		carry >>= 32
	}
	return append(out, uint32(carry)).trimmed()
}

// shifted answers the number times 2^n, n not below 0, as new memory.
func (a natural) shifted(n int) natural {
	out := make(natural, n/32, n/32+len(a)+1)
	carry := uint64(0)
	for _, d := range a {
		carry |= uint64(d) << (n % 32)
		out = append(out, uint32(carry))
		carry >>= 32
	}
	return append(out, uint32(carry)).trimmed()
}

// length tells how many bits the number has.
func (a natural) length() int {
	if len(a) == 0 {
		return 0
	}
	return 32*(len(a)-1) + bits.Len32(a[len(a)-1])
}

func (a natural) compare(b natural) int {
	if len(a) != len(b) {
		return cmp.Compare(len(a), len(b))
	}
	for i := len(a) - 1; i >= 0; i-- {
		if a[i] != b[i] {
			return cmp.Compare(a[i], b[i])
		}
	}
	return 0
}
