package config

import (
	"slices"

	"tocsin/api"
)

// plainRule has the fields of a rule that are no lists.
type plainRule struct {
	record bool
	name   string
	expr   string
	wait   int64
	keep   int64
}

// plainGroup has the fields of a group that are no lists.
type plainGroup struct {
	name  string
	every int64
}

// plainRoute has the fields of a route that are no lists.
type plainRoute struct {
	parent   int
	receiver string
	all      bool
	wait     int64
	interval int64
	repeat   int64
	goesOn   bool
}

// Same tells whether two configurations are alike, field by field.
func Same(a, b api.Config) bool {
	return a.Resolve == b.Resolve && a.Lookback == b.Lookback &&
		slices.Equal(a.Receivers, b.Receivers) &&
		slices.EqualFunc(a.Groups, b.Groups, sameGroup) &&
		slices.EqualFunc(a.Routes, b.Routes, sameRoute) &&
		slices.EqualFunc(a.Inhibits, b.Inhibits, sameInhibit)
}

// Kept answers the numbers of the groups of now that stand in old as well.
func Kept(old, now api.Config) []int {
	var out []int
	for i, g := range now.Groups {
		if slices.ContainsFunc(old.Groups, func(was api.Group) bool { return sameGroup(was, g) }) {
			out = append(out, i)
		}
	}
	return out
}

func sameGroup(a, b api.Group) bool {
	return plainOfGroup(a) == plainOfGroup(b) && slices.EqualFunc(a.Rules, b.Rules, sameRule)
}

func sameRule(a, b api.Rule) bool {
	return plainOfRule(a) == plainOfRule(b) && slices.Equal(a.Labels, b.Labels)
}

func sameRoute(a, b api.Route) bool {
	return plainOfRoute(a) == plainOfRoute(b) && slices.Equal(a.Matchers, b.Matchers) && slices.Equal(a.By, b.By)
}

func sameInhibit(a, b api.Inhibit) bool {
	return slices.Equal(a.Source, b.Source) && slices.Equal(a.Target, b.Target) && slices.Equal(a.Equal, b.Equal)
}

func plainOfGroup(g api.Group) plainGroup {
	return plainGroup{name: g.Name, every: g.Every}
}

func plainOfRule(r api.Rule) plainRule {
	return plainRule{record: r.Record, name: r.Name, expr: r.Expr, wait: r.For, keep: r.Keep}
}

func plainOfRoute(r api.Route) plainRoute {
	return plainRoute{parent: r.Parent, receiver: r.Receiver, all: r.All, wait: r.Wait, interval: r.Interval, repeat: r.Repeat, goesOn: r.Continue}
}
