package block

import (
	"slices"

	"tocsin/api"
	"tocsin/chunk"
	"tocsin/labels"
	"tocsin/vint"
)

// magic is what a block's bytes begin with.
const magic = "TOCBLK01"

// row is a series as it stands in a block: its frame's content.
type row struct {
	labels  []api.Label
	content []byte
}

// Build answers the bytes of the block of some series; else the error and the number of the first series at fault.
func Build(l []api.Series) ([]byte, api.Errno, int) {
	if len(l) > api.MaxSeries {
		return nil, api.ErrFull, 0
	}
	rows := make([]row, len(l))
	ahead := labels.NewIds()
	for i, s := range l {
		content, e := contentOf(s, ahead)
		if e != api.OK {
			return nil, e, i
		}
		ahead.Put(s.Labels)
		rows[i] = row{labels: s.Labels, content: content}
	}
	slices.SortFunc(rows, func(a, b row) int { return labels.Compare(a.labels, b.labels) })
	b, e := written(summaryOf(l), rows)
	return b, e, 0
}

// contentOf answers what stands in the frame of a series that is not among those ahead of it.
func contentOf(s api.Series, ahead *labels.Ids) ([]byte, api.Errno) {
	content, e := labels.Put(nil, s.Labels)
	if e != api.OK {
		return nil, e
	}
	if _, twice := ahead.Find(s.Labels); twice {
		return nil, api.ErrTwice
	}
	if len(s.Samples) == 0 {
		return nil, api.ErrNone
	}
	chunks, e, _ := chunk.Split(s.Samples)
	if e != api.OK {
		return nil, e
	}
	content = append(content, number(int64(len(chunks)))...)
	for _, c := range chunks {
		content = append(content, number(int64(len(c)))...)
		content = append(content, c...)
	}
	if len(content) > api.MaxFrame {
		return nil, api.ErrSize
	}
	return content, api.OK
}

// number answers the bytes of a number that is not below 0.
func number(n int64) []byte {
	return vint.PutU(nil, uint64(n))
}

// summary is what a block's first frame tells of it all.
type summary struct {
	series  int
	samples int
	lowest  int64
	highest int64
}

// summaryOf answers the summary of series that all have samples.
func summaryOf(l []api.Series) summary {
	sum := summary{series: len(l)}
	for i, s := range l {
		first, last := s.Samples[0].T, s.Samples[len(s.Samples)-1].T
		if i == 0 {
			sum.lowest = first
		}
		sum.samples += len(s.Samples)
		sum.lowest, sum.highest = min(sum.lowest, first), max(sum.highest, last)
	}
	return sum
}

// content answers what stands in the first frame.
func (s summary) content() []byte {
	return slices.Concat(number(int64(s.series)), number(int64(s.samples)), number(s.lowest), number(s.highest))
}

// written answers a block's bytes, if they are not too many.
func written(sum summary, rows []row) ([]byte, api.Errno) {
	out := append([]byte(magic), frame(sum.content())...)
	for _, r := range rows {
		out = append(out, frame(r.content)...)
		if len(out) > api.MaxFile {
			return nil, api.ErrSize
		}
	}
	return out, api.OK
}

// frame answers the frame of a content that is not too long.
func frame(content []byte) []byte {
	b, _ := vint.PutFrame(nil, content)
	return b
}
