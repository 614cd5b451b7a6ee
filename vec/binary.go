package vec

import (
	"cmp"
	"slices"

	"tocsin/api"
	"tocsin/labels"
)

// Binary answers what an operator makes of two vectors, matched by their signatures; flag: a comparison tells 1 or 0.
func Binary(op int, l, r []api.Point, m api.Match, flag bool) ([]api.Point, api.Errno) {
	if e := rightMatch(op, m); e != api.OK {
		return nil, e
	}
	left, e := Vector(l)
	if e != api.OK {
		return nil, e
	}
	right, e := Vector(r)
	if e != api.OK {
		return nil, e
	}
	if ofSets(op) {
		return Vector(together(op, left, right, signer(m)))
	}
	out, e := matched(op, left, right, m, flag)
	if e != api.OK {
		return nil, e
	}
	return Vector(out)
}

func ofSets(op int) bool {
	return op >= api.OAnd && op <= api.OUnless
}

// rightMatch tells what is wrong of an operator and how it matches.
func rightMatch(op int, m api.Match) api.Errno {
	wrong := func(name string) bool { return !labels.Name(name) }
	named := func(name string) bool { return m.On && slices.Contains(m.Labels, name) }
	grouped := m.Card == api.ManyToOne || m.Card == api.OneToMany
	switch {
	case !reckons(op) && !compares(op) && !ofSets(op):
		return api.ErrOp
	case m.Card != api.OneToOne && !grouped && m.Card != api.ManyToMany:
		return api.ErrArg
	case (m.Card == api.ManyToMany) != ofSets(op):
		return api.ErrArg
	case slices.ContainsFunc(m.Labels, wrong) || slices.ContainsFunc(m.Include, wrong):
		return api.ErrName
	case len(m.Include) > 0 && !grouped || slices.ContainsFunc(m.Include, named):
		return api.ErrArg
	}
	return api.OK
}

// signer answers what tells the signatures of right label sets apart.
func signer(m api.Match) func(set []api.Label) string {
	if m.On {
		return func(set []api.Label) string {
			signature, _ := labels.Keep(set, m.Labels...)
			return key(signature)
		}
	}
	names := append([]string{metricName}, m.Labels...)
	return func(set []api.Label) string {
		signature, _ := labels.Without(set, names...)
		return key(signature)
	}
}

// key answers a text that no other right label set has.
func key(set []api.Label) string {
	b, _ := labels.Put(nil, set)
	return string(b)
}

// places answers where the points of each signature stand: the last one of them, and whether no two have one.
func places(l []api.Point, sign func([]api.Label) string) (map[string]int, bool) {
	at := make(map[string]int, len(l))
	for i, p := range l {
		at[sign(p.Labels)] = i
	}
	return at, len(at) == len(l)
}

// together answers what and, or, unless make of two vectors. It appends to l.
func together(op int, l, r []api.Point, sign func([]api.Label) string) []api.Point {
	// those answers the points of some whose signature others have, or have not.
	those := func(some, others []api.Point, have bool) []api.Point {
		at, _ := places(others, sign)
		return slices.DeleteFunc(some, func(p api.Point) bool {
			_, there := at[sign(p.Labels)]
			return there != have
		})
	}
	switch op {
	case api.OAnd:
		return those(l, r, true)
	case api.OUnless:
		return those(l, r, false)
	}
	return append(l, those(r, l, false)...)
}

// matched answers what the points of the many side come to with those of the one side that have their signatures.
func matched(op int, l, r []api.Point, m api.Match, flag bool) ([]api.Point, api.Errno) {
	come, sign := outcome(op, flag), signer(m)
	many, one := l, r
	if m.Card == api.OneToMany {
		many, one = r, l
	}
	at, single := places(one, sign)
	if !single {
		return nil, api.ErrMany
	}
	var out []api.Point
	results := make([]int, len(one)) // how many each point of the one side has had
	for _, p := range many {
		i, there := at[sign(p.Labels)]
		if !there {
			continue
		}
		a, b := p.V, one[i].V
		if m.Card == api.OneToMany {
			a, b = b, a
		}
		v, is := come(a, b, a)
		if !is {
			continue
		}
		results[i]++
		if m.Card == api.OneToOne && results[i] > 1 {
			return nil, api.ErrMany
		}
		out = append(out, api.Point{Labels: resultLabels(p.Labels, one[i].Labels, m, dropsName(op, flag)), V: v})
	}
	return out, api.OK
}

// resultLabels answers a result's labels, of its points' on the many side and the one side. They are more than a right label set has, where Include brings too many.
func resultLabels(many, one []api.Label, m api.Match, nameless bool) []api.Label {
	set := many
	if nameless {
		set, _ = labels.Without(set, metricName)
	}
	switch {
	case m.Card != api.OneToOne:
		return including(set, one, m.Include)
	case m.On:
		set, _ = labels.Keep(set, m.Labels...)
	default:
		set, _ = labels.Without(set, m.Labels...)
	}
	return set
}

// including answers set with the labels of these names as one has them.
func including(set, one []api.Label, names []string) []api.Label {
	own, _ := labels.Without(set, names...)
	brought, _ := labels.Keep(one, names...)
	all := append(own, brought...)
	slices.SortFunc(all, func(a, b api.Label) int { return cmp.Compare(a.Name, b.Name) })
	return all
}
