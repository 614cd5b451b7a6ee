package vint

import "tocsin/api"

// sumBytes is how many bytes of a frame its sum takes.
const sumBytes = 4

// PutFrame answers b's bytes with the frame of p behind them.
func PutFrame(b []byte, p []byte) ([]byte, api.Errno) {
	if len(p) > api.MaxFrame {
		return nil, api.ErrSize
	}
	out := addU(withRoom(b, mostBytes+sumBytes+len(p)), uint64(len(p)))
	out = addSum(out, Sum(p))
	return append(out, p...), api.OK
}

// Frame reads the frame at the place at, and tells the place behind it.
func Frame(b []byte, at int) ([]byte, int, api.Errno) {
	size, from, e := U(b, at)
	switch {
	case e != api.OK:
		return nil, 0, e
	case size > api.MaxFrame:
		return nil, 0, api.ErrSize
	case size+sumBytes > uint64(len(b)-from):
		return nil, 0, api.ErrShort
	}
	sum := sumAt(b, from)
	from += sumBytes
	to := from + int(size)
	if Sum(b[from:to]) != sum {
		return nil, 0, api.ErrSum
	}
	return withRoom(b[from:to], 0), to, api.OK
}

// Frames reads frames from the beginning on, as long as they are whole: it tells them, the place behind the last one, and why it went no further.
func Frames(b []byte) ([][]byte, int, api.Errno) {
	var whole [][]byte
	at := 0
	fault := api.OK
reading:
	for at < len(b) {
		p, next, e := Frame(b, at)
		switch e {
		case api.OK:
			whole = append(whole, p)
			at = next
		default:
			fault = e
			break reading
		}
	}
	return whole, at, fault
}

func addSum(b []byte, sum uint32) []byte {
	return append(b, byte(sum), byte(sum>>8), byte(sum>>16), byte(sum>>24))
}

func sumAt(b []byte, at int) uint32 {
	return uint32(b[at]) | uint32(b[at+1])<<8 | uint32(b[at+2])<<16 | uint32(b[at+3])<<24
}
