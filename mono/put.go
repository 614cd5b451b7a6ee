package mono

import (
	"cmp"
	"math"

	"tocsin/api"
)

// put takes a sample, or tells what is wrong of it, or of the log.
func (m *Machine) put(l []api.Label, s api.Sample) api.Errno {
	e := m.head.Check(l, s)
	if e == api.OK && !m.has(l, s) {
		e = m.log.Append(sampleRecord(l, s))
	}
	if e != api.OK {
		return e
	}
	return m.head.Append(l, s)
}

// has: is a sample that can be put there already? Then just another value at its time is one too many. (To look for it among all samples of its series would take long.)
func (m *Machine) has(l []api.Label, s api.Sample) bool {
	other := api.Sample{T: s.T, V: math.Float64frombits(^math.Float64bits(s.V))}
	return m.head.Check(l, other) == api.ErrTwice
}

// keep lays records into the log, and makes lasting what lies there. It tells the first thing that the log refuses, and goes on behind it: what lies there already waits for the sync, too.
func (m *Machine) keep(records ...[]byte) api.Errno {
	var first api.Errno
	for _, b := range records {
		first = cmp.Or(first, m.log.Append(b))
	}
	return cmp.Or(first, m.log.Sync())
}
