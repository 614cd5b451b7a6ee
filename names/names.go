// Package names judges lists of labels' names, which several layers have: those of a route's By, of an inhibition's Equal.
package names

import (
	"slices"

	"tocsin/api"
	"tocsin/labels"
)

// Right tells whether all are right names of labels, not too many for one label set, and none of them twice.
func Right(l []string) bool {
	if len(l) > api.MaxLabels {
		return false
	}
	for i, name := range l {
		if !labels.Name(name) || slices.Contains(l[:i], name) {
			return false
		}
	}
	return true
}
