package inhibit

import (
	"slices"

	"tocsin/api"
	"tocsin/labels"
)

// standing is how a right label set stands to an inhibition: on which sides it is, and which of the labels of Equal it has.
type standing struct {
	source bool
	target bool
	equal  []api.Label // Of one that is on no side nobody asks.
}

func (x rule) standing(l []api.Label) standing {
	s := standing{source: x.source(l), target: x.target(l)}
	if s.source || s.target {
		s.equal, _ = labels.Keep(l, x.equal...)
	}
	return s
}

// heldBy: is it held back by this source?
func (s standing) heldBy(source standing) bool {
	onBoth := s.source && source.target
	return s.target && source.source && !onBoth && labels.Compare(s.equal, source.equal) == 0
}

// mute marks those of l that another one of them holds back by the inhibition. Each is asked once by each side, and not once for each other one.
func (x rule) mute(l [][]api.Label, out []bool) {
	all := make([]standing, len(l))
	for i, set := range l {
		all[i] = x.standing(set)
	}
	for i, s := range all {
		out[i] = out[i] || slices.ContainsFunc(all, s.heldBy)
	}
}
