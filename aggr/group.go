package aggr

import (
	"slices"

	"tocsin/api"
	"tocsin/labels"
	"tocsin/vec"
)

// metricName is the label whose value is a metric's name.
const metricName = "__name__"

// group is a group's label set, and its points, rising.
type group struct {
	set    []api.Label
	points []api.Point
}

// Group answers the label set of the group that a point of these labels is in.
func Group(l []api.Label, names []string, without bool) ([]api.Label, api.Errno) {
	if e, _ := labels.Right(l); e != api.OK {
		return nil, e
	}
	if !allNames(names) {
		return nil, api.ErrName
	}
	return grouper(names, without)(l), api.OK
}

// Groups answers the points of each group.
func Groups(l []api.Point, names []string, without bool) ([][]api.Point, api.Errno) {
	groups, e := grouped(l, names, without)
	if e != api.OK {
		return nil, e
	}
	var out [][]api.Point
	for _, g := range groups {
		out = append(out, g.points)
	}
	return out, api.OK
}

func allNames(names []string) bool {
	return !slices.ContainsFunc(names, func(name string) bool { return !labels.Name(name) })
}

// grouper answers what tells the group of a right label set.
func grouper(names []string, without bool) func(set []api.Label) []api.Label {
	if !without {
		return func(set []api.Label) []api.Label {
			kept, _ := labels.Keep(set, names...)
			return kept
		}
	}
	names = append([]string{metricName}, names...)
	return func(set []api.Label) []api.Label {
		rest, _ := labels.Without(set, names...)
		return rest
	}
}

// grouped answers the groups of a vector, rising, as new memory.
func grouped(l []api.Point, names []string, without bool) ([]group, api.Errno) {
	points, e := vec.Vector(l)
	switch {
	case e != api.OK:
		return nil, e
	case !allNames(names):
		return nil, api.ErrName
	}
	var out []group
	of := grouper(names, without)
	places := map[string]int{}
	for _, p := range points {
		set := of(p.Labels)
		at, there := places[key(set)]
		if !there {
			at = len(out)
			places[key(set)] = at
			out = append(out, group{set: set})
		}
		out[at].points = append(out[at].points, p)
	}
	slices.SortFunc(out, func(a, b group) int { return labels.Compare(a.set, b.set) })
	return out, api.OK
}

// key answers a text that no other right label set has.
func key(set []api.Label) string {
	b, _ := labels.Put(nil, set)
	return string(b)
}
