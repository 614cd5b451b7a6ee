package mono

import (
	"tocsin/api"
	"tocsin/http"
	"tocsin/labels"
)

// tellAlerts tells the alerts of the rules.
func (m *Machine) tellAlerts(http.Request) reply {
	var all []api.Json
	for _, a := range m.Active() {
		set, _ := labels.Print(a.Labels)
		state := "pending"
		if a.State == api.SFiring {
			state = "firing"
		}
		all = append(all, object(
			member{"labels", text(set)},
			member{"state", text(state)},
			member{"since", number(a.Since)},
		))
	}
	return done(member{"alerts", list(all...)})
}

// tellStatus tells how much of everything there is.
func (m *Machine) tellStatus(http.Request) reply {
	requests, notices := m.Counts()
	return done(
		member{"now", number(m.now)},
		member{"series", number(int64(m.head.Len()))},
		member{"samples", number(int64(m.head.Samples()))},
		member{"blocks", number(int64(m.store.Blocks()))},
		member{"silences", number(int64(m.silences.Len()))},
		member{"requests", number(requests)},
		member{"notices", number(notices)},
	)
}
