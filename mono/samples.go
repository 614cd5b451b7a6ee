package mono

import (
	"tocsin/api"
	"tocsin/eval"
	"tocsin/expo"
	"tocsin/http"
)

// noTime is the time of a sample that has none.
const noTime = -1

// write puts the samples of a text.
func (m *Machine) write(r http.Request) reply {
	samples, _, e, at := expo.Parse(r.Body)
	if e != api.OK {
		return refusedAt(codeRequest, e, at)
	}
	var faults []api.Json
	for i, s := range samples {
		if s.T == noTime {
			s.T = m.now
		}
		if e := m.put(s.Labels, api.Sample{T: s.T, V: s.V}); e != api.OK {
			faults = append(faults, list(number(int64(i)), number(int64(e))))
		}
	}
	m.log.Sync()
	x := done(
		member{"accepted", number(int64(len(samples) - len(faults)))},
		member{"refused", list(faults...)},
	)
	if len(faults) > 0 {
		x.code = codeConflict
	}
	return x
}

// query tells what an expression comes to.
func (m *Machine) query(r http.Request) reply {
	expr, there := r.Get("query")
	if !there {
		return refused(codeRequest, api.ErrWords)
	}
	at, e := numberOf(r, "time")
	switch e {
	case api.ErrWords:
		at = m.now
	case api.ErrArg:
		return refused(codeRequest, e)
	}
	v, e, place := eval.Query(m.store, expr, at, m.config.Lookback)
	if e != api.OK {
		return refusedAt(codeContent, e, place)
	}
	shown, e := eval.Show(v)
	if e != api.OK {
		return refused(codeContent, e)
	}
	return done(member{"type", text(kindText(v.Kind))}, member{"text", text(shown)})
}

// kindText tells what a value is.
func kindText(kind int) string {
	switch kind {
	case api.VScalar:
		return "scalar"
	case api.VString:
		return "string"
	case api.VVector:
		return "vector"
	}
	return "matrix"
}
