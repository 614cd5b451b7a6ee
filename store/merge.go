package store

import (
	"cmp"
	"iter"
	"slices"

	"tocsin/api"
	"tocsin/labels"
)

// Merge answers all series of some lists, each label set once; at a time that several have, the sample of the last of them.
func Merge(l ...[]api.Series) ([]api.Series, api.Errno) {
	all := slices.Concat(l...)
	for _, one := range all {
		if e := right(one); e != api.OK {
			return nil, e
		}
	}
	return slices.Collect(merged(all)), api.OK
}

// right tells what is wrong of a series.
func right(s api.Series) api.Errno {
	if e, _ := labels.Right(s.Labels); e != api.OK || len(s.Labels) == 0 {
		return api.ErrLabel
	}
	last := int64(-1)
	for _, one := range s.Samples {
		if one.T <= last || one.T > api.MaxTime {
			return api.ErrArg
		}
		last = one.T
	}
	return api.OK
}

// merged goes through the label sets of all parts that have samples, rising, each with the samples of all of its parts, as new memory. It sorts parts.
func merged(parts []api.Series) iter.Seq[api.Series] {
	// Parts of one label set stay in their order: the later one tells.
	slices.SortStableFunc(parts, func(a, b api.Series) int { return labels.Compare(a.Labels, b.Labels) })
	return func(yield func(api.Series) bool) {
		for rest := parts; len(rest) > 0; {
			set := rest[0].Labels
			n := 1
			for n < len(rest) && labels.Compare(rest[n].Labels, set) == 0 {
				n++
			}
			one := api.Series{Labels: slices.Clone(set), Samples: joined(rest[:n])}
			rest = rest[n:]
			if len(one.Samples) > 0 && !yield(one) {
				return
			}
		}
	}
}

// joined answers the samples of some parts, rising; of those with one time the last.
func joined(parts []api.Series) []api.Sample {
	var all []api.Sample
	for _, p := range parts {
		all = append(all, p.Samples...)
	}
	slices.SortStableFunc(all, func(a, b api.Sample) int { return cmp.Compare(a.T, b.T) })
	var out []api.Sample
	for i, one := range all {
		if i+1 == len(all) || all[i+1].T != one.T {
			out = append(out, one)
		}
	}
	return out
}
