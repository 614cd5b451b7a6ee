package mono

import (
	"slices"

	"tocsin/api"
)

// Now tells the clock.
func (m *Machine) Now() int64 {
	if m.isNone() {
		return 0
	}
	return m.now
}

// Config tells the configuration, and when it was loaded.
func (m *Machine) Config() (api.Config, int64) {
	if m.isNone() {
		return api.Config{}, 0
	}
	return copyOf(m.config), m.loaded
}

// Series tells all that the store has.
func (m *Machine) Series() []api.Series {
	if m.isNone() {
		return nil
	}
	all, _ := m.store.Range(nil, 0, api.MaxTime)
	return all
}

// Active tells the alerts of the rules, rule by rule.
func (m *Machine) Active() []api.Active {
	if m.isNone() {
		return nil
	}
	var all []api.Active
	for k := range keepers(m.courses) {
		all = append(all, k.Active()...)
	}
	return all
}

// Alerts tells the set of alerts.
func (m *Machine) Alerts() []api.Alert {
	if m.isNone() {
		return nil
	}
	return slices.Collect(m.alerts.All())
}

// Silences tells all silences.
func (m *Machine) Silences() []api.Silence {
	if m.isNone() {
		return nil
	}
	return slices.Collect(m.silences.All())
}

// Marks tells the log of notifications.
func (m *Machine) Marks() []api.Mark {
	if m.isNone() {
		return nil
	}
	return slices.Collect(m.marks.All())
}

// Files tells the disk's files.
func (m *Machine) Files() []string {
	if m.isNone() {
		return nil
	}
	return m.disk.List()
}

// Counts tells how many requests were answered, and how many notifications taken; any goroutine may ask.
func (m *Machine) Counts() (int64, int64) {
	if m.isNone() {
		return 0, 0
	}
	return m.requests.Load(), m.notices.Load()
}
