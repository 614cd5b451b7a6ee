package http

import (
	"slices"

	"tocsin/api"
)

// Member answers the first member of an object that has that name.
func Member(j api.Json, name string) (api.Json, bool) {
	if j.Kind != api.JObject {
		return api.Json{}, false
	}
	at := slices.Index(j.Names, name)
	if at < 0 || at >= len(j.List) {
		return api.Json{}, false
	}
	return copyOf(j.List[at]), true
}

// copyOf answers a value in new memory.
func copyOf(j api.Json) api.Json {
	c := copier{room: api.MaxFile}
	if c.fits(j, 0) {
		return unfolded(j)
	}
	c.done = map[place][]api.Json{}
	return c.mirrored(j)
}

// place is where a list stands in memory.
type place struct {
	first *api.Json
	n     int
}

// copier copies a value of any shape.
type copier struct {
	room int // how many values more it may hold to be copied one by one
	done map[place][]api.Json
}

// fits: does it hold no more values, and none deeper, than one that can be written?
func (c *copier) fits(j api.Json, depth int) bool {
	c.room--
	if c.room < 0 || depth > api.MaxNest {
		return false
	}
	for _, x := range j.List {
		if !c.fits(x, depth+1) {
			return false
		}
	}
	return true
}

// unfolded copies each value wherever it is held, so that no two lists of the copy share memory.
func unfolded(j api.Json) api.Json {
	j.Names = slices.Clone(j.Names)
	j.List = slices.Clone(j.List)
	for i, x := range j.List {
		j.List[i] = unfolded(x)
	}
	return j
}

// mirrored copies each list once. A value that holds itself has no other copy with an end.
func (c *copier) mirrored(j api.Json) api.Json {
	j.Names = slices.Clone(j.Names)
	if len(j.List) == 0 {
		j.List = nil
		return j
	}
	at := place{first: &j.List[0], n: len(j.List)}
	list, there := c.done[at]
	if !there {
		list = slices.Clone(j.List)
		c.done[at] = list
		for i, x := range list {
			list[i] = c.mirrored(x)
		}
	}
	j.List = list
	return j
}
