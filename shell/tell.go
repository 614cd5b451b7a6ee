package shell

import (
	"strconv"
	"strings"

	"tocsin/api"
	"tocsin/config"
	"tocsin/labels"
	"tocsin/lex"
	"tocsin/match"
)

func (s *Shell) now([]string) string {
	return whole(s.machine.Now())
}

func (s *Shell) counts([]string) string {
	requests, notices := s.machine.Counts()
	return joined(whole(requests), whole(notices))
}

func (s *Shell) files([]string) string {
	return joined(s.machine.Files()...)
}

func (s *Shell) series([]string) string {
	return lines(s.machine.Series(), func(x api.Series) string {
		return joined(setText(x.Labels), whole(int64(len(x.Samples))))
	})
}

func (s *Shell) active([]string) string {
	return lines(s.machine.Active(), func(a api.Active) string {
		return joined(setText(a.Labels), whole(int64(a.State)), whole(a.Since), whole(a.Fired), whole(a.Gone))
	})
}

func (s *Shell) alerts([]string) string {
	return lines(s.machine.Alerts(), func(a api.Alert) string {
		return joined(setText(a.Labels), whole(a.Start), whole(a.End))
	})
}

func (s *Shell) silences([]string) string {
	return lines(s.machine.Silences(), func(x api.Silence) string {
		matchers, e, _ := match.Print(x.Matchers)
		return joined(whole(x.Id), textOr(matchers, e), whole(x.From), whole(x.To))
	})
}

func (s *Shell) marks([]string) string {
	return lines(s.machine.Marks(), func(m api.Mark) string {
		return joined(quoted(m.Receiver), quoted(m.Key), whole(m.At), whole(int64(len(m.Firing))), whole(int64(len(m.Resolved))))
	})
}

func (s *Shell) config([]string) string {
	c, _ := s.machine.Config()
	shown, e, _ := config.Print(c)
	return textOr(shown, e)
}

// joined answers texts with a blank between two.
func joined(parts ...string) string {
	return strings.Join(parts, " ")
}

// lines answers what is told of each thing, with the end of a line between two.
func lines[T any](all []T, tell func(T) string) string {
	var out []string
	for _, x := range all {
		out = append(out, tell(x))
	}
	return strings.Join(out, "\n")
}

// failed tells an error.
func failed(e api.Errno) string {
	return joined("error", whole(int64(e)))
}

// failedAt tells an error and its place.
func failedAt(e api.Errno, at int) string {
	return joined(failed(e), "at", whole(int64(at)))
}

// textOr tells a text, or, if there is none, its error.
func textOr(s string, e api.Errno) string {
	if e != api.OK {
		return failed(e)
	}
	return s
}

func setText(l []api.Label) string {
	return textOr(labels.Print(l))
}

func quoted(s string) string {
	return textOr(lex.Quote(s))
}

func whole(n int64) string {
	return strconv.FormatInt(n, 10)
}
