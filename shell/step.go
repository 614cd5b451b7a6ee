package shell

import (
	"strconv"
	"strings"

	"tocsin/api"
	"tocsin/digits"
	"tocsin/http"
)

// lineEnd ends the lines of a request.
const lineEnd = "\r\n"

func (s *Shell) tick(words []string) string {
	n, is := digits.Read(words[0])
	if !is {
		return failed(api.ErrArg)
	}
	return s.step(api.Entry{Kind: api.ETick, N: n})
}

func (s *Shell) get(words []string) string {
	return s.request("GET", words[0], lineEnd)
}

func (s *Shell) remove(words []string) string {
	return s.request("DELETE", words[0], lineEnd)
}

func (s *Shell) post(words []string) string {
	body := unescaped(words[1])
	return s.request("POST", words[0], "Content-Length: ", strconv.Itoa(len(body)), lineEnd, lineEnd, body)
}

func (s *Shell) take(words []string) string {
	return s.step(api.Entry{Kind: api.EAnswer, Text: words[0], N: 1})
}

func (s *Shell) refuse(words []string) string {
	return s.step(api.Entry{Kind: api.EAnswer, Text: words[0], N: 0})
}

func (s *Shell) crash(words []string) string {
	var keeps []api.Keep
	for i := 0; i < len(words); i += 2 {
		n, is := digits.Read(words[i+1])
		if !is {
			return failed(api.ErrArg)
		}
		keeps = append(keeps, api.Keep{Name: words[i], N: int(n)})
	}
	return s.step(api.Entry{Kind: api.ECrash, Keeps: keeps})
}

// request takes the step of a request, the parts of which stand behind its first line.
func (s *Shell) request(method, target string, parts ...string) string {
	first := joined(method, target, "HTTP/1.1") + lineEnd
	return s.step(api.Entry{Kind: api.ERequest, Text: first + strings.Join(parts, "")})
}

// step takes a step of the machine, and tells what that puts out.
func (s *Shell) step(e api.Entry) string {
	out, fault := s.machine.Step(e)
	switch {
	case fault != api.OK:
		return failed(fault)
	case len(out) == 0:
		return "ok"
	}
	return lines(out, toldOut)
}

// toldOut tells an answer, or a notification.
func toldOut(x api.Out) string {
	if x.Answer == "" {
		return joined("notice", x.Notice.Payload)
	}
	code, _, body, _ := http.Read([]byte(x.Answer))
	return joined(strconv.Itoa(code), body)
}

// unescaped answers the body that a text stands for.
func unescaped(s string) string {
	var b strings.Builder
	for s != "" {
		ahead, behind, is := strings.Cut(s, `\`)
		b.WriteString(ahead)
		switch {
		case strings.HasPrefix(behind, "n"):
			b.WriteByte('\n')
			behind = behind[1:]
		case strings.HasPrefix(behind, `\`):
			behind = behind[1:]
			fallthrough
		case is:
			b.WriteByte('\\')
		}
		s = behind
	}
	return b.String()
}
