package silence

import (
	"tocsin/api"
	"tocsin/vint"
)

// written answers the record of a silence that can be.
func written(x api.Silence) []byte {
	b := vint.PutI(nil, x.Id)
	b = vint.PutI(b, x.From)
	b = vint.PutI(b, x.To)
	b = vint.PutU(b, uint64(len(x.Matchers)))
	for _, m := range x.Matchers {
		b = vint.PutU(b, uint64(m.Op))
		b = vint.PutText(b, m.Name)
		b = vint.PutText(b, m.Value)
	}
	return b
}

// writtenGone answers the record of a silence that is gone.
func writtenGone(id int64) []byte {
	return vint.PutI(nil, -id)
}

// read answers the silence of which b is the record, if there is one that can be.
func read(b []byte) (entry, bool) {
	r := &reader{b: b}
	var x api.Silence
	x.Id = r.number()
	x.From = r.number()
	x.To = r.number()
	for range r.count(api.MaxMatchers) {
		x.Matchers = append(x.Matchers, r.matcher())
	}
	if !r.atEnd() || !isId(x.Id) {
		return entry{}, false
	}
	return canBe(x)
}

// readGone answers the Id of the silence that is gone by the record b, if it is one.
func readGone(b []byte) (int64, bool) {
	r := &reader{b: b}
	id := -r.number()
	if !r.atEnd() || !isId(id) {
		return 0, false
	}
	return id, true
}

// reader reads the parts of a record one after another. Behind the first fault it reads no more: all is zero.
type reader struct {
	b     []byte
	at    int
	fault api.Errno
}

func (r *reader) number() int64 {
	if r.fault != api.OK {
		return 0
	}
	n, at, e := vint.I(r.b, r.at)
	r.at, r.fault = at, e
	return n
}

// count reads a number that is at most so great.
func (r *reader) count(most uint64) int {
	if r.fault != api.OK {
		return 0
	}
	n, at, e := vint.U(r.b, r.at)
	if e == api.OK && n > most {
		n, e = 0, api.ErrLarge
	}
	r.at, r.fault = at, e
	return int(n)
}

func (r *reader) text(most int) string {
	if r.fault != api.OK {
		return ""
	}
	s, at, e := vint.Text(r.b, r.at, most)
	r.at, r.fault = at, e
	return s
}

func (r *reader) matcher() api.Matcher {
	var m api.Matcher
	m.Op = r.count(api.MNre)
	m.Name = r.text(api.MaxName)
	m.Value = r.text(api.MaxValue)
	return m
}

// atEnd: was all read, and nothing at fault?
func (r *reader) atEnd() bool {
	return r.fault == api.OK && r.at == len(r.b)
}
