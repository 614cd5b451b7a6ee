package mono

import (
	"tocsin/alerts"
	"tocsin/api"
	"tocsin/block"
	"tocsin/dispatch"
	"tocsin/head"
	"tocsin/inhibit"
	"tocsin/nflog"
	"tocsin/notify"
	"tocsin/silence"
	"tocsin/store"
	"tocsin/wal"
)

// logName is what the log's files are called.
const logName = "data"

// crash leaves of the disk what it is told to leave, and boots.
func (m *Machine) crash(e api.Entry) ([]api.Out, api.Errno) {
	if m.disk.Crash(e.Keeps) != api.OK {
		return nil, api.ErrArg
	}
	m.boot()
	return nil, api.OK
}

// boot makes the machine what its log tells. The clock, and who takes, stay as they are.
func (m *Machine) boot() {
	log, all, _ := wal.Open(m.disk, logName, api.MaxFile)
	m.log = log
	m.begin(Default(), 0, nil)
	m.head = head.New(api.MaxSeries, api.MaxSamples)
	m.blocks = nil
	var silences, marks [][]byte
	for _, b := range all {
		switch kind, said := b[0], b[1:]; kind {
		case ofSilence:
			silences = append(silences, said)
		case ofMark:
			marks = append(marks, said)
		default:
			m.follow(kind, said)
		}
	}
	m.silences, _, _ = silence.Open(silences)
	m.marks, _, _ = nflog.Open(marks)
	m.openBlocks()
	m.empty()
}

// follow does what a record tells, if it can be. (One of the alerts can not, where the log has refused their configuration.)
func (m *Machine) follow(kind byte, said []byte) {
	switch kind {
	case ofSample:
		if l, s, ok := readSample(said); ok {
			m.head.Append(l, s)
		}
	case ofConfig:
		if c, loaded, ok := readConfig(said); ok {
			m.begin(c, loaded, newCourses(c.Groups))
		}
	case ofActive:
		if courses, ok := readActive(said, m.config.Groups); ok {
			m.courses = courses
		}
	case ofBlocks:
		if numbers, ok := readBlocks(said); ok {
			m.blocks = numbers
		}
	}
}

// begin makes a configuration the one that holds, its groups having come so far.
func (m *Machine) begin(c api.Config, loaded int64, courses []course) {
	m.config, m.loaded, m.courses = c, loaded, courses
}

// empty leaves no alerts to be told, and none that wait to be.
func (m *Machine) empty() {
	m.alerts = alerts.New(m.config.Resolve, api.MaxAlerts)
	m.board, _, _ = dispatch.New(m.config.Routes)
	m.mute, _, _ = inhibit.New(m.config.Inhibits)
	m.sender = notify.New()
}

// openBlocks makes the store one of the head and of the blocks that there are.
func (m *Machine) openBlocks() {
	m.store = store.New(m.head)
	for _, n := range m.blocks {
		b, _ := m.disk.Read(blockFile(n))
		x, _ := block.Open(b)
		m.store.Add(x)
	}
}
