package chunk

import (
	"bytes"
	"iter"
	"slices"

	"tocsin/api"
)

// Encode answers the bytes of the chunk of l; else the error and the number of the first sample that can not be in it.
func Encode(l []api.Sample) ([]byte, api.Errno, int) {
	c := New()
	for i, s := range l {
		if e := c.Append(s.T, s.V); e != api.OK {
			return nil, e, i
		}
	}
	return c.Bytes(), api.OK, 0
}

// Decode answers the samples of a chunk's bytes.
func Decode(b []byte) ([]api.Sample, api.Errno) {
	again := New()
	var l []api.Sample
	for s, e := range told(b) {
		if e != api.OK || again.Append(s.T, s.V) != api.OK {
			return nil, api.ErrForm
		}
		l = append(l, s)
	}
	// Each chunk has one form: that which its samples are written in.
	if !bytes.Equal(again.Bytes(), b) {
		return nil, api.ErrForm
	}
	return l, api.OK
}

// Range answers those samples of a chunk's bytes whose times are not below from, and not above to.
func Range(b []byte, from, to int64) (iter.Seq2[int64, float64], api.Errno) {
	l, e := Decode(b)
	if e != api.OK {
		return nil, e
	}
	return func(yield func(int64, float64) bool) {
		for _, s := range l {
			if s.T >= from && s.T <= to && !yield(s.T, s.V) {
				return
			}
		}
	}, api.OK
}

// Split answers the chunks of l, each but the last one full; else the error and the number of the first sample at fault.
func Split(l []api.Sample) ([][]byte, api.Errno, int) {
	if e, i := rising(l); e != api.OK {
		return nil, e, i
	}
	var chunks [][]byte
	for piece := range slices.Chunk(l, api.MaxChunk) {
		b, _, _ := Encode(piece)
		chunks = append(chunks, b)
	}
	return chunks, api.OK, 0
}

// rising answers the error and the number of the first sample that can not be, or is not behind the one ahead.
func rising(l []api.Sample) (api.Errno, int) {
	for i, s := range l {
		switch {
		case s.T < 0 || s.T > api.MaxTime:
			return api.ErrArg, i
		case i > 0 && s.T <= l[i-1].T:
			return api.ErrOld, i
		}
	}
	return api.OK, 0
}

// Join answers the samples of all chunks; else the error and the number of the first chunk at fault.
func Join(l ...[]byte) ([]api.Sample, api.Errno, int) {
	var all []api.Sample
	for i, b := range l {
		some, e := Decode(b)
		switch {
		case e != api.OK:
			return nil, e, i
		case len(some) > 0 && len(all) > 0 && some[0].T <= all[len(all)-1].T:
			return nil, api.ErrOld, i
		}
		all = append(all, some...)
	}
	return all, api.OK, 0
}
