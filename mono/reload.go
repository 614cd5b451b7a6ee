package mono

import (
	"tocsin/api"
	"tocsin/config"
	"tocsin/http"
)

// reload makes the configuration of a body the one that holds.
func (m *Machine) reload(r http.Request) reply {
	c, e, at := config.Parse(r.Body)
	if e != api.OK {
		return refusedAt(codeRequest, e, at)
	}
	if _, e, _ := config.Print(c); e != api.OK {
		return refused(codeContent, e)
	}
	m.begin(c, m.now, keptCourses(m.config, c, m.courses))
	m.empty()
	if e := m.keep(configRecord(c, m.loaded), activeRecord(m.courses)); e != api.OK {
		return refused(codeUnavailable, e)
	}
	return done(
		member{"groups", number(int64(len(c.Groups)))},
		member{"routes", number(int64(len(c.Routes)))},
	)
}
