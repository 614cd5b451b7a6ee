package shell

import (
	"tocsin/api"
	"tocsin/expo"
	"tocsin/http"
	"tocsin/labels"
	"tocsin/lex"
	"tocsin/parse"
	"tocsin/regex"
)

// The commands that ask a layer without the machine.

func (s *Shell) expr(words []string) string {
	tree, e, at := parse.Parse(words[0])
	if e != api.OK {
		return failedAt(e, at)
	}
	kind, e, at := parse.Check(tree)
	if e != api.OK {
		return failedAt(e, at)
	}
	shown, e := parse.Print(tree)
	if e != api.OK {
		return failed(e)
	}
	return joined(whole(int64(kind)), shown)
}

func (s *Shell) labels(words []string) string {
	set, e, at := labels.Parse(words[0])
	if e != api.OK {
		return failedAt(e, at)
	}
	return setText(set)
}

func (s *Shell) regex(words []string) string {
	r, e, at := regex.Compile(words[0])
	switch {
	case e != api.OK:
		return failedAt(e, at)
	case r.Match(words[1]):
		return "yes"
	}
	return "no"
}

func (s *Shell) float(words []string) string {
	v, e := expo.Float(words[0])
	if e != api.OK {
		return failed(e)
	}
	return expo.Text(v)
}

func (s *Shell) span(words []string) string {
	n, e := lex.Span(words[0])
	if e != api.OK {
		return failed(e)
	}
	return whole(n)
}

func (s *Shell) json(words []string) string {
	j, e, at := http.ReadJson(words[0])
	if e != api.OK {
		return failedAt(e, at)
	}
	return textOr(http.WriteJson(j))
}
