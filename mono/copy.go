package mono

import (
	"slices"

	"tocsin/api"
)

// copyOf answers a configuration in new memory.
func copyOf(c api.Config) api.Config {
	c.Receivers = slices.Clone(c.Receivers)
	c.Groups = slices.Clone(c.Groups)
	for i := range c.Groups {
		g := &c.Groups[i]
		g.Rules = slices.Clone(g.Rules)
		for k := range g.Rules {
			g.Rules[k].Labels = slices.Clone(g.Rules[k].Labels)
		}
	}
	c.Routes = slices.Clone(c.Routes)
	for i := range c.Routes {
		r := &c.Routes[i]
		r.Matchers, r.By = slices.Clone(r.Matchers), slices.Clone(r.By)
	}
	c.Inhibits = slices.Clone(c.Inhibits)
	for i := range c.Inhibits {
		x := &c.Inhibits[i]
		x.Source, x.Target, x.Equal = slices.Clone(x.Source), slices.Clone(x.Target), slices.Clone(x.Equal)
	}
	return c
}
