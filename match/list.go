package match

import "tocsin/api"

// List is several right matchers.
type List struct {
	all []*Matcher
}

// Right tells the first matcher that is not right: what is wrong of it, and its number.
func Right(l []api.Matcher) (api.Errno, int) {
	_, e, at := Compile(l)
	return e, at
}

// All tells whether all matchers match s.
func All(l []api.Matcher, s []api.Label) (bool, api.Errno) {
	x, e, _ := Compile(l)
	return x.Labels(s), e
}

// Compile answers the object of several matchers, or the first that is not right.
func Compile(l []api.Matcher) (*List, api.Errno, int) {
	if len(l) > api.MaxMatchers {
		return nil, api.ErrFull, 0
	}
	x := &List{}
	for i, m := range l {
		one := New(m)
		if e := one.Right(); e != api.OK {
			return nil, e, i
		}
		x.all = append(x.all, one)
	}
	return x, api.OK, 0
}

// Labels tells whether all of the matchers match s.
func (x *List) Labels(s []api.Label) bool {
	if x == nil {
		return false
	}
	for _, one := range x.all {
		if !one.Labels(s) {
			return false
		}
	}
	return true
}

// Some tells whether there is a matcher that does not match the empty value.
func (x *List) Some() bool {
	if x == nil {
		return false
	}
	for _, one := range x.all {
		if !one.Empty() {
			return true
		}
	}
	return false
}

// Len tells how many matchers there are.
func (x *List) Len() int {
	if x == nil {
		return 0
	}
	return len(x.all)
}
