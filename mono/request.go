package mono

import (
	"tocsin/api"
	"tocsin/digits"
	"tocsin/http"
)

// endpoint is what is done with the requests of a method and a path.
type endpoint struct {
	method string
	path   string
	serve  func(m *Machine, r http.Request) reply
}

func endpoints() []endpoint {
	return []endpoint{
		{"POST", "/api/write", (*Machine).write},
		{"GET", "/api/query", (*Machine).query},
		{"GET", "/api/alerts", (*Machine).tellAlerts},
		{"POST", "/api/silences", (*Machine).addSilence},
		{"DELETE", "/api/silences", (*Machine).endSilence},
		{"GET", "/api/silences", (*Machine).tellSilences},
		{"POST", "/reload", (*Machine).reload},
		{"GET", "/status", (*Machine).tellStatus},
	}
}

// request answers the bytes of a request.
func (m *Machine) request(e api.Entry) ([]api.Out, api.Errno) {
	answer := m.serve([]byte(e.Text)).bytes()
	m.requests.Add(1)
	return []api.Out{{Answer: answer}}, api.OK
}

// serve does what a request asks for.
func (m *Machine) serve(b []byte) reply {
	r, e, at := http.Parse(b)
	if e != api.OK {
		return refusedAt(codeRequest, e, at)
	}
	isPath := false
	for _, x := range endpoints() {
		switch {
		case x.path != r.Path:
			// Another one's.
		case x.method == r.Method:
			return x.serve(m, r)
		default:
			isPath = true
		}
	}
	if isPath {
		return refused(codeMethod, api.ErrOp)
	}
	return refused(codeNone, api.ErrNone)
}

// numberOf answers a number of the query: ErrWords, if it is not there, ErrArg, if it is none.
func numberOf(r http.Request, name string) (int64, api.Errno) {
	s, there := r.Get(name)
	if !there {
		return 0, api.ErrWords
	}
	n, is := digits.Read(s)
	if !is {
		return 0, api.ErrArg
	}
	return n, api.OK
}
