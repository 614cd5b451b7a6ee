package config

import (
	"errors"
	"slices"
	"strings"

	"tocsin/api"
)

// The words that lines and parts begin with.
const (
	wordResolve  = "resolve"
	wordLookback = "lookback"
	wordReceiver = "receiver"
	wordGroup    = "group"
	wordEvery    = "every"
	wordAlert    = "alert"
	wordRecord   = "record"
	wordFor      = "for"
	wordKeep     = "keep"
	wordLabels   = "labels"
	wordExpr     = "expr"
	wordRoute    = "route"
	wordParent   = "parent"
	wordMatch    = "match"
	wordBy       = "by"
	wordWait     = "wait"
	wordInterval = "interval"
	wordRepeat   = "repeat"
	wordContinue = "continue"
	wordInhibit  = "inhibit"
	wordSource   = "source"
	wordTarget   = "target"
	wordEqual    = "equal"
)

// all stands in the place of names, where alerts are grouped by all labels.
const all = "*"

// What is left out, in milliseconds.
const (
	usualResolve  = 300000
	usualLookback = 300000
	usualWait     = 30000
	usualInterval = 300000
	usualRepeat   = 14400000
)

var errSize = errors.New("a text that is too long")

// lineFault is what is at fault of a line, and how many lines stand ahead of it.
type lineFault struct {
	ahead int
	cause error
}

func (f lineFault) Error() string { return f.cause.Error() }

func (f lineFault) Unwrap() error { return f.cause }

// Parse reads a configuration: else it tells what is at fault, and the number of the line, or as Right does.
func Parse(s string) (api.Config, api.Errno, int) {
	c, err := read(s)
	e, at := told(err)
	if e == api.OK {
		e, at = Right(c)
	}
	if e != api.OK {
		return api.Config{}, e, at
	}
	return c, api.OK, 0
}

// told answers the error's number, and the number of the line at fault.
func told(err error) (api.Errno, int) {
	var f lineFault
	switch {
	case errors.Is(err, errSize):
		return api.ErrSize, 0
	case errors.As(err, &f):
		return api.ErrLine, f.ahead
	}
	return api.OK, 0
}

// draft is a configuration of which some lines are read.
type draft struct {
	config api.Config
	once   met // the words that were met of those of which but one line may stand
}

// read reads all lines, whether their configuration can be or not.
func read(s string) (api.Config, error) {
	if len(s) > api.MaxText {
		return api.Config{}, errSize
	}
	d := draft{config: api.Config{Resolve: usualResolve, Lookback: usualLookback}, once: met{}}
	for i, text := range strings.Split(s, "\n") {
		l := newLine(text)
		if l.rest == "" {
			continue
		}
		d.line(l)
		l.end()
		if l.err != nil {
			return api.Config{}, lineFault{ahead: i, cause: l.err}
		}
	}
	return d.config, nil
}

// line reads a line by its first word.
func (d *draft) line(l *line) {
	switch l.word() {
	case wordResolve:
		d.span(l, wordResolve, &d.config.Resolve)
	case wordLookback:
		d.span(l, wordLookback, &d.config.Lookback)
	case wordReceiver:
		d.receiver(l)
	case wordGroup:
		d.group(l)
	case wordAlert:
		d.alert(l)
	case wordRecord:
		d.record(l)
	case wordRoute:
		d.route(l)
	case wordInhibit:
		d.inhibit(l)
	default:
		l.refuse(errWord)
	}
}

func (d *draft) span(l *line, word string, to *int64) {
	if d.once.again(word) {
		l.refuse(errPlace)
	}
	must(l, word, (*line).span, to)
}

func (d *draft) receiver(l *line) {
	var name string
	must(l, wordReceiver, (*line).name, &name)
	d.config.Receivers = append(d.config.Receivers, name)
}

func (d *draft) group(l *line) {
	var g api.Group
	must(l, wordGroup, (*line).name, &g.Name)
	must(l, wordEvery, (*line).span, &g.Every)
	d.config.Groups = append(d.config.Groups, g)
}

func (d *draft) alert(l *line) {
	var r api.Rule
	must(l, wordAlert, (*line).quoted, &r.Name)
	may(l, wordFor, (*line).span, &r.For)
	may(l, wordKeep, (*line).span, &r.Keep)
	may(l, wordLabels, (*line).labels, &r.Labels)
	must(l, wordExpr, (*line).expr, &r.Expr)
	d.rule(l, r)
}

func (d *draft) record(l *line) {
	r := api.Rule{Record: true}
	must(l, wordRecord, (*line).metric, &r.Name)
	may(l, wordLabels, (*line).labels, &r.Labels)
	must(l, wordExpr, (*line).expr, &r.Expr)
	d.rule(l, r)
}

// rule puts a rule into the last group.
func (d *draft) rule(l *line, r api.Rule) {
	last := len(d.config.Groups) - 1
	if last < 0 {
		l.refuse(errPlace)
		return
	}
	g := &d.config.Groups[last]
	g.Rules = append(g.Rules, r)
}

// grouping is how a route's alerts are grouped.
type grouping struct {
	by  []string
	all bool
}

// grouping reads names, or a sign for all of them.
func (l *line) grouping() (grouping, error) {
	if l.word() == all {
		l.cut(len(all))
		return grouping{all: true}, nil
	}
	by, err := l.names()
	return grouping{by: by}, err
}

func (d *draft) route(l *line) {
	var is bool
	must(l, wordRoute, (*line).nothing, &is)
	parent := none
	may(l, wordParent, (*line).number, &parent)
	r, err := d.under(parent)
	if err != nil {
		l.refuse(err)
		return
	}
	grouped := grouping{by: r.By, all: r.All}
	must(l, wordReceiver, (*line).name, &r.Receiver)
	may(l, wordMatch, (*line).matchers, &r.Matchers)
	may(l, wordBy, (*line).grouping, &grouped)
	may(l, wordWait, (*line).span, &r.Wait)
	may(l, wordInterval, (*line).span, &r.Interval)
	may(l, wordRepeat, (*line).span, &r.Repeat)
	may(l, wordContinue, (*line).nothing, &r.Continue)
	r.By, r.All = grouped.by, grouped.all
	d.config.Routes = append(d.config.Routes, r)
}

// under answers what a route under this parent has where its line leaves it out.
func (d *draft) under(parent int) (api.Route, error) {
	l := d.config.Routes
	switch {
	case parent == none && len(l) == 0:
		return api.Route{Parent: none, Wait: usualWait, Interval: usualInterval, Repeat: usualRepeat}, nil
	case parent == none, parent >= len(l):
		return api.Route{}, errPlace
	}
	p := l[parent]
	return api.Route{Parent: parent, By: slices.Clone(p.By), All: p.All, Wait: p.Wait, Interval: p.Interval, Repeat: p.Repeat}, nil
}

func (d *draft) inhibit(l *line) {
	var is bool
	var x api.Inhibit
	must(l, wordInhibit, (*line).nothing, &is)
	must(l, wordSource, (*line).matchers, &x.Source)
	must(l, wordTarget, (*line).matchers, &x.Target)
	may(l, wordEqual, (*line).names, &x.Equal)
	d.config.Inhibits = append(d.config.Inhibits, x)
}
