package mono

import (
	"math"

	"tocsin/api"
	"tocsin/http"
	"tocsin/match"
)

// greatest is the greatest number of a body.
const greatest = 1 << 51

// addSilence adds the silence that a body tells.
func (m *Machine) addSilence(r http.Request) reply {
	j, e, at := http.ReadJson(r.Body)
	if e != api.OK {
		return refusedAt(codeRequest, e, at)
	}
	matchers, isText := textOf(j, "matchers")
	from, isFrom := wholeOf(j, "from")
	to, isTo := wholeOf(j, "to")
	if !isText || !isFrom || !isTo {
		return refused(codeRequest, api.ErrJson)
	}
	l, e, at := match.Parse(matchers)
	if e != api.OK {
		return refusedAt(codeRequest, e, at)
	}
	id, e := m.silences.Add(m.now, api.Silence{Matchers: l, From: from, To: to})
	if e != api.OK {
		return refused(codeContent, e)
	}
	return m.hushed(id)
}

// endSilence ends a silence.
func (m *Machine) endSilence(r http.Request) reply {
	id, e := numberOf(r, "id")
	if e != api.OK {
		return refused(codeRequest, e)
	}
	switch e := m.silences.Expire(m.now, id); e {
	case api.OK:
		return m.hushed(id)
	case api.ErrNone:
		return refused(codeNone, e)
	case api.ErrState:
		return refused(codeConflict, e)
	default:
		return refused(codeContent, e)
	}
}

// hushed lays what was changed of silences into the log, and answers the one that was.
func (m *Machine) hushed(id int64) reply {
	if e := m.keep(records(ofSilence, m.silences.Changed())...); e != api.OK {
		return refused(codeUnavailable, e)
	}
	return done(member{"id", number(id)})
}

// tellSilences tells all silences.
func (m *Machine) tellSilences(http.Request) reply {
	var all []api.Json
	for x := range m.silences.All() {
		matchers, _, _ := match.Print(x.Matchers)
		all = append(all, object(
			member{"id", number(x.Id)},
			member{"matchers", text(matchers)},
			member{"from", number(x.From)},
			member{"to", number(x.To)},
		))
	}
	return done(member{"silences", list(all...)})
}

// textOf answers the text of an object's member.
func textOf(j api.Json, name string) (string, bool) {
	x, there := http.Member(j, name)
	return x.Text, there && x.Kind == api.JText
}

// wholeOf answers the whole number of an object's member.
func wholeOf(j api.Json, name string) (int64, bool) {
	x, there := http.Member(j, name)
	if !there || x.Kind != api.JNumber || x.Num < 0 || x.Num > greatest || x.Num != math.Trunc(x.Num) {
		return 0, false
	}
	return int64(x.Num), true
}
