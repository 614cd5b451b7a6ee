package nflog

import (
	"tocsin/api"
	"tocsin/labels"
	"tocsin/parts"
	"tocsin/vint"
)

// Open answers the log that comes of records, one after another, or what is wrong of one, and its number.
func Open(records [][]byte) (*Log, api.Errno, int) {
	l := New()
	for i, b := range records {
		m, e := Read(b)
		if e == api.OK {
			e = l.lay(m)
		}
		if e != api.OK {
			return nil, e, i
		}
	}
	return l, api.OK, 0
}

// Records answers the records of all marks, in their order.
func (l *Log) Records() [][]byte {
	var out [][]byte
	for m := range l.All() {
		out = append(out, written(m))
	}
	return out
}

// Record answers the record of a mark.
func Record(m api.Mark) ([]byte, api.Errno) {
	if e := Right(m); e != api.OK {
		return nil, e
	}
	return written(m), api.OK
}

// Read answers the mark of a record.
func Read(b []byte) (api.Mark, api.Errno) {
	r := parts.New(b)
	var m api.Mark
	m.Receiver = r.Text(api.MaxName)
	m.Key = r.Text(api.MaxText)
	m.At = r.Int()
	m.Firing = readSets(r)
	m.Resolved = readSets(r)
	if !r.Done() || Right(m) != api.OK {
		return api.Mark{}, api.ErrForm
	}
	return m, api.OK
}

func readSets(r *parts.Reader) [][]api.Label {
	var l [][]api.Label
	for range r.Count(api.MaxAlerts) {
		l = append(l, r.Labels())
	}
	return l
}

// written answers the record of a mark that can be.
func written(m api.Mark) []byte {
	b := vint.PutText(nil, m.Receiver)
	b = vint.PutText(b, m.Key)
	b = vint.PutI(b, m.At)
	b = append(b, writtenSets(m.Firing)...)
	return append(b, writtenSets(m.Resolved)...)
}

func writtenSets(l [][]api.Label) []byte {
	b := vint.PutU(nil, uint64(len(l)))
	for _, set := range l {
		// Each is written apart: to put it behind all the others would copy them again and again.
		one, _ := labels.Put(nil, set)
		b = append(b, one...)
	}
	return b
}
