package route

import (
	"strconv"

	"tocsin/api"
	"tocsin/labels"
)

// Tree is routes that are right, ready to be asked.
type Tree struct {
	all []branch
}

// branch is a route, what its matchers say, and its children. Nobody writes into its lists behind New.
type branch struct {
	api.Route
	answers  func(s []api.Label) bool
	children []int
}

// New answers the tree of routes that can be, or what Right tells of them.
func New(l []api.Route) (*Tree, api.Errno, int) {
	switch {
	case len(l) == 0:
		return nil, api.ErrRoute, 0
	case len(l) > api.MaxRoutes:
		return nil, api.ErrFull, 0
	}
	t := &Tree{}
	for i, r := range l {
		next, ok := made(i, r)
		if !ok {
			return nil, api.ErrRoute, i
		}
		t.all = append(t.all, next)
		if r.Parent != noParent {
			t.all[r.Parent].children = append(t.all[r.Parent].children, i)
		}
	}
	return t, api.OK, 0
}

// Match tells which routes are told of a label set.
func (t *Tree) Match(s []api.Label) ([]int, api.Errno) {
	if e := t.has(0); e != api.OK {
		return nil, e
	}
	if e, _ := labels.Right(s); e != api.OK {
		return nil, api.ErrLabel
	}
	return t.told(0, s), api.OK
}

// Key tells the key of the group of a label set at route i.
func (t *Tree) Key(i int, s []api.Label) (string, api.Errno) {
	if e := t.has(i); e != api.OK {
		return "", e
	}
	if e, _ := labels.Right(s); e != api.OK {
		return "", api.ErrLabel
	}
	if r := t.all[i]; !r.All {
		s, _ = labels.Keep(s, r.By...)
	}
	text, _ := labels.Print(s)
	return strconv.Itoa(i) + "/" + text, api.OK
}

// Route answers route i.
func (t *Tree) Route(i int) (api.Route, api.Errno) {
	if e := t.has(i); e != api.OK {
		return api.Route{}, e
	}
	return copyOf(t.all[i].Route), api.OK
}

// Len tells how many routes there are.
func (t *Tree) Len() int {
	if t == nil {
		return 0
	}
	return len(t.all)
}

// has: is there a tree, and a route i?
func (t *Tree) has(i int) api.Errno {
	switch {
	case t == nil:
		return api.ErrNil
	case i < 0 || i >= len(t.all):
		return api.ErrNone
	}
	return api.OK
}

// told answers who is told, asked at route i: nobody, if it does not answer.
func (t *Tree) told(i int, s []api.Label) []int {
	r := t.all[i]
	if !r.answers(s) {
		return nil
	}
	var out []int
asking:
	for _, c := range r.children {
		said := t.told(c, s)
		out = append(out, said...)
		if len(said) > 0 && !t.all[c].Continue {
			break asking
		}
	}
	if len(out) == 0 {
		return []int{i}
	}
	return out
}
