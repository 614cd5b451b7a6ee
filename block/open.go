package block

import (
	"bytes"
	"slices"

	"tocsin/api"
	"tocsin/chunk"
	"tocsin/labels"
	"tocsin/vint"
)

// Open answers the block of some bytes.
func Open(b []byte) (*Block, api.Errno) {
	if len(b) > api.MaxFile {
		return nil, api.ErrForm
	}
	own := slices.Clone(b)
	all, e := read(own)
	if e != api.OK {
		return nil, api.ErrForm
	}
	whole, e := joined(all)
	if e != api.OK {
		return nil, api.ErrForm
	}
	// Each block has one form: that which Build gives its series. So the numbers that it tells of itself are right too.
	again, e, _ := Build(whole)
	if e != api.OK || !bytes.Equal(again, own) {
		return nil, api.ErrForm
	}
	return &Block{bytes: own, sum: summaryOf(whole), series: all, postings: postingsOf(all)}, api.OK
}

// read answers the series that stand in b, as pieces of it, whatever the numbers are that are told of them.
func read(b []byte) ([]series, api.Errno) {
	if !bytes.HasPrefix(b, []byte(magic)) {
		return nil, api.ErrForm
	}
	_, at, e := vint.Frame(b, len(magic))
	var all []series
	for e == api.OK && at < len(b) {
		var content []byte
		content, at, e = vint.Frame(b, at)
		if e != api.OK {
			break
		}
		var s series
		s, e = readSeries(b[at-len(content) : at : at])
		all = append(all, s)
	}
	if e != api.OK {
		return nil, e
	}
	return all, api.OK
}

// readSeries answers the series whose frame's content is given, its chunks as pieces of that.
func readSeries(content []byte) (series, api.Errno) {
	set, at, e := labels.Read(content, 0)
	if e != api.OK {
		return series{}, e
	}
	_, at, e = vint.U(content, at)
	if e != api.OK {
		return series{}, e
	}
	s := series{labels: set}
	for at < len(content) {
		size, from, e := vint.U(content, at)
		switch {
		case e != api.OK:
			return series{}, e
		case size > uint64(len(content)-from):
			return series{}, api.ErrShort
		}
		at = from + int(size)
		s.chunks = append(s.chunks, content[from:at:at])
	}
	return s, api.OK
}

// joined answers the series with their samples.
func joined(all []series) ([]api.Series, api.Errno) {
	out := make([]api.Series, len(all))
	for i, s := range all {
		samples, e, _ := chunk.Join(s.chunks...)
		if e != api.OK {
			return nil, e
		}
		out[i] = api.Series{Labels: s.labels, Samples: samples}
	}
	return out, api.OK
}
