package mono

import (
	"tocsin/api"
	"tocsin/http"
)

// kindOfBody is what all bodies are.
const kindOfBody = "application/json"

// The codes of answers.
const (
	codeOK          = 200
	codeRequest     = 400
	codeNone        = 404
	codeMethod      = 405
	codeConflict    = 409
	codeContent     = 422
	codeTooLarge    = 500
	codeUnavailable = 503
)

// reply is what a request is answered.
type reply struct {
	code int
	body api.Json
}

// bytes answers the bytes of an answer; a body that is too long is told by its error.
func (x reply) bytes() string {
	body, e := http.WriteJson(x.body)
	if e != api.OK {
		return refused(codeTooLarge, e).bytes()
	}
	b, _ := http.Answer(x.code, kindOfBody, body)
	return string(b)
}

// done answers that all went, and what there is to tell.
func done(members ...member) reply {
	return reply{code: codeOK, body: object(members...)}
}

// refused answers an error.
func refused(code int, e api.Errno) reply {
	return reply{code: code, body: object(member{"error", number(int64(e))})}
}

// refusedAt answers an error and its place.
func refusedAt(code int, e api.Errno, at int) reply {
	return reply{code: code, body: object(member{"error", number(int64(e))}, member{"at", number(int64(at))})}
}

// member is a member of an object.
type member struct {
	name  string
	value api.Json
}

func object(members ...member) api.Json {
	j := api.Json{Kind: api.JObject}
	for _, x := range members {
		j.Names = append(j.Names, x.name)
		j.List = append(j.List, x.value)
	}
	return j
}

func list(values ...api.Json) api.Json {
	return api.Json{Kind: api.JList, List: values}
}

// number answers a number that a float holds, as all that is told does.
func number(n int64) api.Json {
	return api.Json{Kind: api.JNumber, Num: float64(n)}
}

func text(s string) api.Json {
	return api.Json{Kind: api.JText, Text: s}
}
