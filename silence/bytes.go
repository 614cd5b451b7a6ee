package silence

import (
	"tocsin/api"
	"tocsin/parts"
	"tocsin/vint"
)

// written answers the record of a silence that can be.
func written(x api.Silence) []byte {
	b := vint.PutI(nil, x.Id)
	b = vint.PutI(b, x.From)
	b = vint.PutI(b, x.To)
	b = vint.PutU(b, uint64(len(x.Matchers)))
	for _, m := range x.Matchers {
		b = vint.PutU(b, uint64(m.Op))
		b = vint.PutText(b, m.Name)
		b = vint.PutText(b, m.Value)
	}
	return b
}

// writtenGone answers the record of a silence that is gone.
func writtenGone(id int64) []byte {
	return vint.PutI(nil, -id)
}

// read answers the silence of which b is the record, if there is one that can be.
func read(b []byte) (entry, bool) {
	r := parts.New(b)
	var x api.Silence
	x.Id = r.Int()
	x.From = r.Int()
	x.To = r.Int()
	for range r.Count(api.MaxMatchers) {
		x.Matchers = append(x.Matchers, readMatcher(r))
	}
	if !r.Done() || !isId(x.Id) {
		return entry{}, false
	}
	return canBe(x)
}

func readMatcher(r *parts.Reader) api.Matcher {
	var m api.Matcher
	m.Op = r.Count(api.MNre)
	m.Name = r.Text(api.MaxName)
	m.Value = r.Text(api.MaxValue)
	return m
}

// readGone answers the Id of the silence that is gone by the record b, if it is one.
func readGone(b []byte) (int64, bool) {
	r := parts.New(b)
	id := -r.Int()
	if !r.Done() || !isId(id) {
		return 0, false
	}
	return id, true
}
