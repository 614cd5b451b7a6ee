// Package labelsets judges and copies lists of label sets, which several layers have: what fires, what is resolved.
package labelsets

import (
	"slices"

	"tocsin/api"
	"tocsin/labels"
)

// Right tells whether all are right label sets.
func Right(l ...[]api.Label) bool {
	for _, set := range l {
		if e, _ := labels.Right(set); e != api.OK {
			return false
		}
	}
	return true
}

// Copy answers the same label sets in new memory.
func Copy(l [][]api.Label) [][]api.Label {
	out := slices.Clone(l)
	for i := range out {
		out[i] = slices.Clone(out[i])
	}
	return out
}
