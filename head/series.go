package head

import (
	"slices"

	"tocsin/api"
	"tocsin/chunk"
)

// series is the samples of a label set, in chunks, one behind the other. The last chunk always has room, and so may be empty.
type series []*chunk.Chunk

// last looks for the last sample, from the last chunk on back to one that has some.
func (l series) last() (api.Sample, bool) {
	i := len(l)
back:
	if i == 0 {
		return api.Sample{}, false
	}
	i--
	s, some := l[i].Last()
	if !some {
		goto back
	}
	return s, true
}

// first answers the first time of a series that has samples.
func (l series) first() int64 {
	for t := range l[0].All() {
		return t
	}
	return 0
}

// with answers the series with a sample behind its last one.
func (l series) with(s api.Sample) series {
	if len(l) == 0 {
		l = series{chunk.New()}
	}
	end := l[len(l)-1]
	end.Append(s.T, s.V)
	if end.Len() == api.MaxChunk {
		l = append(l, chunk.New())
	}
	return l
}

// cut answers the series without the samples ahead of a time (none, if no other is there), and how many went.
func (l series) cut(before int64) (series, int) {
	gone := 0
	for i, c := range l {
		last, _ := c.Last()
		if last.T < before {
			gone += c.Len()
			continue
		}
		left := slices.Clone(l[i:])
		left[0] = from(c, before)
		return left, gone + c.Len() - left[0].Len()
	}
	return nil, gone
}

// from answers a chunk of the samples of c that are not ahead of a time.
func from(c *chunk.Chunk, before int64) *chunk.Chunk {
	out := chunk.New()
	for t, v := range c.All() {
		if t >= before {
			out.Append(t, v)
		}
	}
	return out
}

// samples answers all samples.
func (l series) samples() []api.Sample {
	var out []api.Sample
	for _, c := range l {
		for t, v := range c.All() {
			out = append(out, api.Sample{T: t, V: v})
		}
	}
	return out
}
