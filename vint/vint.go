// Package vint is layer 1: numbers of any length, sums, frames. See shared/doc/01-vint.md.
package vint

import (
	"unicode/utf8"

	"tocsin/api"
)

// mostBytes is how many bytes the uvarint of 2^64 - 1 has; no right one has more.
const mostBytes = 10

// PutU answers b's bytes with the uvarint of n behind them.
func PutU(b []byte, n uint64) []byte {
	return addU(withRoom(b, mostBytes), n)
}

// U reads the uvarint at the place at, and tells the place behind it.
func U(b []byte, at int) (uint64, int, api.Errno) {
	if at < 0 || at > len(b) {
		return 0, 0, api.ErrArg
	}
	var n uint64
	for i := 0; i < len(b)-at; i++ {
		c := b[at+i]
		switch {
		case i == mostBytes-1:
			// Of the tenth byte only one bit has room; with its highest bit set the number is too large, whatever follows.
			if c > 1 {
				return 0, 0, api.ErrLarge
			}
			fallthrough
		case c < 0x80:
			if c == 0 && i > 0 {
				return 0, 0, api.ErrForm
			}
			return n | uint64(c)<<(7*i), at + i + 1, api.OK
		}
		n |= uint64(c&0x7f) << (7 * i)
	}
	return 0, 0, api.ErrShort
}

// PutI answers b's bytes with the varint of n behind them.
func PutI(b []byte, n int64) []byte {
	return PutU(b, zigzag(n))
}

// I reads the varint at the place at, and tells the place behind it.
func I(b []byte, at int) (int64, int, api.Errno) {
	u, next, e := U(b, at)
	return unzigzag(u), next, e
}

// PutText answers b's bytes with the length of s, and s, behind them.
func PutText(b []byte, s string) []byte {
	out := addU(withRoom(b, mostBytes+len(s)), uint64(len(s)))
	return append(out, s...)
}

// Text reads the text at the place at, if it has at most so many bytes, and tells the place behind it.
func Text(b []byte, at int, most int) (string, int, api.Errno) {
	if at < 0 || at > len(b) || most < 0 {
		return "", 0, api.ErrArg
	}
	size, from, e := U(b, at)
	switch {
	case e != api.OK:
		return "", 0, e
	case size > uint64(most):
		return "", 0, api.ErrSize
	case size > uint64(len(b)-from):
		return "", 0, api.ErrShort
	}
	to := from + int(size)
	if !utf8.Valid(b[from:to]) {
		return "", 0, api.ErrUtf
	}
	return string(b[from:to]), to, api.OK
}

// zigzag lays the numbers below 0 between the others, so that those near 0 stay small.
func zigzag(n int64) uint64 {
	if n < 0 {
		return ^(uint64(n) << 1)
	}
	return uint64(n) << 1
}

func unzigzag(u uint64) int64 {
	if u&1 == 1 {
		return ^int64(u >> 1)
	}
	return int64(u >> 1)
}

// withRoom copies b, so that nothing is ever appended to memory that the caller has.
func withRoom(b []byte, more int) []byte {
	out := make([]byte, len(b), len(b)+more)
	copy(out, b)
	return out
}

func addU(b []byte, n uint64) []byte {
	for n >= 0x80 {
		b = append(b, byte(n)|0x80)
		n >>= 7
	}
	return append(b, byte(n))
}
