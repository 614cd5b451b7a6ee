package block

import (
	"slices"

	"tocsin/api"
	"tocsin/labels"
)

// Merge answers the bytes of the block of all series of some blocks, each with the samples of all of them.
func Merge(l ...*Block) ([]byte, api.Errno) {
	if slices.Contains(l, nil) {
		return nil, api.ErrNil
	}
	ids := labels.NewIds()
	var all []api.Series // one for each number, from 1 on
	for _, b := range l {
		for s := range b.All() {
			id, e := ids.Put(s.Labels)
			switch {
			case e != api.OK:
				return nil, e
			case id > len(all):
				all = append(all, s)
			default:
				all[id-1].Samples = merged(all[id-1].Samples, s.Samples)
			}
		}
	}
	out, e, _ := Build(all)
	return out, e
}

// merged answers the samples of both, rising; of two with one time that of b.
func merged(a, b []api.Sample) []api.Sample {
	var out []api.Sample
next:
	switch {
	case len(a) == 0:
		return append(out, b...)
	case len(b) == 0:
		return append(out, a...)
	case a[0].T < b[0].T:
		out, a = append(out, a[0]), a[1:]
	case a[0].T > b[0].T:
		out, b = append(out, b[0]), b[1:]
	default:
		a = a[1:]
	}
	goto next
}

// Trim answers the bytes of the block without the samples ahead of a time.
func Trim(b *Block, from int64) ([]byte, api.Errno) {
	if b == nil {
		return nil, api.ErrNil
	}
	var left []api.Series
	for s := range b.All() {
		s.Samples = slices.DeleteFunc(s.Samples, func(one api.Sample) bool { return one.T < from })
		if len(s.Samples) > 0 {
			left = append(left, s)
		}
	}
	out, e, _ := Build(left)
	return out, e
}
