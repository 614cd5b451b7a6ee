package mono

import (
	"iter"
	"slices"

	"tocsin/api"
	"tocsin/config"
	"tocsin/rules"
)

// never stands for the evaluation of what was not evaluated yet.
const never = -1

// course is how far a group has come.
type course struct {
	last    int64           // its last evaluation
	keepers []*rules.Keeper // of its rules, in order; a recording one has none
}

// newCourses answers those of groups that were not evaluated yet.
func newCourses(groups []api.Group) []course {
	out := make([]course, len(groups))
	for i, g := range groups {
		out[i].last = never
		for _, r := range g.Rules {
			// Of a recording rule there is none.
			k, _ := rules.New(r)
			out[i].keepers = append(out[i].keepers, k)
		}
	}
	return out
}

// keptCourses answers the courses of the groups of now: those that stand in old as well go on as they have come.
func keptCourses(old, now api.Config, courses []course) []course {
	out := newCourses(now.Groups)
	for _, i := range config.Kept(old, now) {
		// No two groups have one name.
		was := slices.IndexFunc(old.Groups, func(g api.Group) bool { return g.Name == now.Groups[i].Name })
		out[i] = courses[was]
	}
	return out
}

// keepers tells the keepers of all groups, group by group.
func keepers(courses []course) iter.Seq[*rules.Keeper] {
	return func(yield func(*rules.Keeper) bool) {
		for _, c := range courses {
			for _, k := range c.keepers {
				if k != nil && !yield(k) {
					return
				}
			}
		}
	}
}
