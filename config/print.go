package config

import (
	"strconv"
	"strings"

	"tocsin/api"
	"tocsin/labels"
	"tocsin/lex"
	"tocsin/match"
)

// Print answers the text of a configuration that can be.
func Print(c api.Config) (string, api.Errno, int) {
	if e, at := Right(c); e != api.OK {
		return "", e, at
	}
	var p page
	p.line(wordResolve, spanText(c.Resolve))
	p.line(wordLookback, spanText(c.Lookback))
	for _, name := range c.Receivers {
		p.line(wordReceiver, name)
	}
	for _, g := range c.Groups {
		p.line(wordGroup, g.Name, wordEvery, spanText(g.Every))
		for _, r := range g.Rules {
			p.line(ruleWords(r)...)
		}
	}
	for _, r := range c.Routes {
		p.line(routeWords(r)...)
	}
	for _, x := range c.Inhibits {
		p.line(inhibitWords(x)...)
	}
	if p.full() {
		return "", api.ErrSize, 0
	}
	return p.text.String(), api.OK, 0
}

// page is lines that are written. What is too long already grows no further.
type page struct {
	text strings.Builder
}

func (p *page) line(words ...string) {
	if !p.full() {
		p.text.WriteString(strings.Join(words, " ") + "\n")
	}
}

func (p *page) full() bool {
	return p.text.Len() > api.MaxText
}

func ruleWords(r api.Rule) []string {
	words := []string{wordRecord, r.Name}
	if !r.Record {
		name, _ := lex.Quote(r.Name)
		words = []string{wordAlert, name}
	}
	if r.For != 0 {
		words = append(words, wordFor, spanText(r.For))
	}
	if r.Keep != 0 {
		words = append(words, wordKeep, spanText(r.Keep))
	}
	if len(r.Labels) > 0 {
		set, _ := labels.Print(r.Labels)
		words = append(words, wordLabels, set)
	}
	return append(words, wordExpr, r.Expr)
}

func routeWords(r api.Route) []string {
	words := []string{wordRoute}
	if r.Parent != none {
		words = append(words, wordParent, strconv.Itoa(r.Parent))
	}
	words = append(words, wordReceiver, r.Receiver)
	if len(r.Matchers) > 0 {
		words = append(words, wordMatch, matchersText(r.Matchers))
	}
	switch {
	case r.All:
		words = append(words, wordBy, all)
	case len(r.By) > 0:
		words = append(words, wordBy, namesText(r.By))
	}
	words = append(words, wordWait, spanText(r.Wait), wordInterval, spanText(r.Interval), wordRepeat, spanText(r.Repeat))
	if r.Continue {
		words = append(words, wordContinue)
	}
	return words
}

func inhibitWords(x api.Inhibit) []string {
	words := []string{wordInhibit, wordSource, matchersText(x.Source), wordTarget, matchersText(x.Target)}
	if len(x.Equal) > 0 {
		words = append(words, wordEqual, namesText(x.Equal))
	}
	return words
}

func spanText(n int64) string {
	s, _ := lex.SpanText(n)
	return s
}

func matchersText(l []api.Matcher) string {
	s, _, _ := match.Print(l)
	return s
}

func namesText(l []string) string {
	return strings.Join(l, ", ")
}
