package config

import (
	"fmt"
	"math/rand"
	"reflect"
	"regexp"
	"slices"
	"strconv"
	"strings"
	"testing"

	"tocsin/api"
	"tocsin/labels"
	"tocsin/lex"
	"tocsin/match"
	"tocsin/parse"
	"tocsin/rules"
)

const (
	maxSpan = 1 << 40
	maxText = 65536
)

// base answers the least configuration.
func base() api.Config {
	return api.Config{
		Resolve: 300000, Lookback: 300000,
		Receivers: []string{"team"},
		Routes:    []api.Route{{Parent: -1, Receiver: "team", Wait: 30000, Interval: 300000, Repeat: 14400000}},
	}
}

// rich answers a configuration that has all there is.
func rich() api.Config {
	return api.Config{
		Resolve: 1, Lookback: maxSpan,
		Receivers: []string{"team", "A.b_c-9", "match"},
		Groups: []api.Group{
			{Name: "g", Every: 60000, Rules: []api.Rule{
				{Name: "Down", Expr: "up == 0", For: 300000, Keep: 1500, Labels: []api.Label{{Name: "a", Value: "#}\"\\\n\r"}, {Name: "severity", Value: "critical"}}},
				{Name: "a#\"\\\n\t\x01é b", Expr: "1"},
				{Record: true, Name: "job:up", Expr: "sum by (job) (up{a=\"x\"}) > 1", Labels: []api.Label{{Name: "b", Value: "2"}}},
				{Record: true, Name: ":r", Expr: "time()"},
			}},
			{Name: "none", Every: maxSpan},
		},
		Routes: []api.Route{
			{Parent: -1, Receiver: "team", By: []string{"job", "alertname"}, Wait: 0, Interval: 1, Repeat: maxSpan},
			{Parent: 0, Receiver: "A.b_c-9", All: true, Matchers: []api.Matcher{{Op: api.MEq, Name: "a", Value: "#}\"\\\n"}, {Op: api.MNre, Name: "b", Value: "c|d"}}, Wait: maxSpan, Interval: maxSpan, Repeat: 1, Continue: true},
			{Parent: 1, Receiver: "match", By: []string{"wait"}, Wait: 1, Interval: 1, Repeat: 1},
			{Parent: 0, Receiver: "team", By: []string{"continue", "x"}, Wait: 1, Interval: 1, Repeat: 1, Continue: true},
		},
		Inhibits: []api.Inhibit{
			{Source: []api.Matcher{{Op: api.MEq, Name: "severity", Value: "critical"}}, Target: []api.Matcher{{Op: api.MRe, Name: "severity", Value: "warning|"}}, Equal: []string{"job", "instance"}},
			{Source: []api.Matcher{{Op: api.MNe, Name: "a", Value: ""}, {Op: api.MNe, Name: "a", Value: ""}}, Target: []api.Matcher{{Op: api.MEq, Name: "b", Value: ""}}},
		},
	}
}

// copyOf answers a configuration that shares no list with c.
func copyOf(c api.Config) api.Config {
	return deepCopy(reflect.ValueOf(c)).Interface().(api.Config)
}

func deepCopy(v reflect.Value) reflect.Value {
	out := reflect.New(v.Type()).Elem()
	switch v.Kind() {
	case reflect.Struct:
		for i := range v.NumField() {
			out.Field(i).Set(deepCopy(v.Field(i)))
		}
	case reflect.Slice:
		for i := range v.Len() {
			out = reflect.Append(out, deepCopy(v.Index(i)))
		}
	default:
		out.Set(v)
	}
	return out
}

// alike: are two things the same, an empty list being a nil one?
func alike[T any](a, b T) bool {
	return reflect.DeepEqual(deepCopy(reflect.ValueOf(a)).Interface(), deepCopy(reflect.ValueOf(b)).Interface())
}

var (
	wordName = regexp.MustCompile(`\A[A-Za-z0-9._-]{1,64}\z`)
	blankEnd = regexp.MustCompile(`\A[ \t\r]|[ \t\r]\z`)
)

func isName(s string) bool { return wordName.MatchString(s) }

func span(n int64) bool { return 1 <= n && n <= maxSpan }

func exprModel(s string) bool {
	if strings.Contains(s, "\n") || strings.Contains(s, "#") || blankEnd.MatchString(s) {
		return false
	}
	tree, e, _ := parse.Parse(s)
	if e != api.OK {
		return false
	}
	kind, e, _ := parse.Check(tree)
	return e == api.OK && kind != api.VString && kind != api.VMatrix
}

func labelNamesModel(l []string) bool {
	for i, s := range l {
		if !labels.Name(s) || slices.Contains(l[:i], s) {
			return false
		}
	}
	return len(l) <= 16
}

func matchersModel(l []api.Matcher) bool {
	e, _ := match.Right(l)
	return e == api.OK
}

// rightModel: by the five sentences.
func rightModel(c api.Config) (api.Errno, int) {
	if !span(c.Resolve) || !span(c.Lookback) {
		return api.ErrArg, 0
	}
	if n := len(c.Receivers); n == 0 || n > 32 {
		return api.ErrReceiver, min(n, 32)
	}
	for i, s := range c.Receivers {
		if !isName(s) || slices.Contains(c.Receivers[:i], s) {
			return api.ErrReceiver, i
		}
	}
	if len(c.Groups) > 32 {
		return api.ErrGroup, 32
	}
	for i, g := range c.Groups {
		twice := slices.ContainsFunc(c.Groups[:i], func(x api.Group) bool { return x.Name == g.Name })
		if twice || !isName(g.Name) || !span(g.Every) || len(g.Rules) > 64 {
			return api.ErrGroup, i
		}
		for _, r := range g.Rules {
			if rules.Rule(r) != api.OK || !exprModel(r.Expr) {
				return api.ErrRule, i
			}
		}
	}
	if n := len(c.Routes); n == 0 || n > 64 {
		return api.ErrRoute, min(n, 64)
	}
	for i, r := range c.Routes {
		first := r.Parent == -1 && len(r.Matchers) == 0 && !r.Continue
		other := 0 <= r.Parent && r.Parent < i
		if i == 0 && !first || i > 0 && !other {
			return api.ErrRoute, i
		}
		if !slices.Contains(c.Receivers, r.Receiver) || !matchersModel(r.Matchers) || !labelNamesModel(r.By) || r.All && len(r.By) != 0 {
			return api.ErrRoute, i
		}
		if r.Wait < 0 || r.Wait > maxSpan || !span(r.Interval) || !span(r.Repeat) {
			return api.ErrRoute, i
		}
	}
	if len(c.Inhibits) > 32 {
		return api.ErrInhibit, 32
	}
	for i, x := range c.Inhibits {
		if len(x.Source) == 0 || len(x.Target) == 0 || !matchersModel(x.Source) || !matchersModel(x.Target) || !labelNamesModel(x.Equal) {
			return api.ErrInhibit, i
		}
	}
	return api.OK, 0
}

// The forms of lines, without remarks and blanks at their ends.
var (
	remark = regexp.MustCompile(`(?s)\A((?:[^"#]|"(?:[^"\\]|\\.)*(?:"|\\?\z))*)(?:#.*)?\z`)
	forms  = func() map[string]*regexp.Regexp {
		const (
			b     = `[ \t\r]+`
			word  = `([^ \t\r]+)`
			list  = `(\{(?:[^"}]|"(?:[^"\\]|\\.)*")*\})`
			names = `([A-Za-z0-9_]+(?:[ \t\r]*,[ \t\r]*[A-Za-z0-9_]+)*)`
		)
		opt := func(w, what string) string { return `(?:` + b + w + b + what + `)?` }
		m := map[string]string{
			"resolve":  b + word,
			"lookback": b + word,
			"receiver": b + word,
			"group":    b + word + b + "every" + b + word,
			"alert":    b + `("(?:[^"\\]|\\.)*")` + opt("for", word) + opt("keep", word) + opt("labels", list) + b + `expr(?:` + b + `(.*))?`,
			"record":   b + word + opt("labels", list) + b + `expr(?:` + b + `(.*))?`,
			"route":    opt("parent", "([0-9]+)") + b + "receiver" + b + word + opt("match", list) + opt("by", `(\*|`+names[1:]) + opt("wait", word) + opt("interval", word) + opt("repeat", word) + `(` + b + `continue)?`,
			"inhibit":  b + "source" + b + list + b + "target" + b + list + opt("equal", names),
		}
		out := map[string]*regexp.Regexp{}
		for w, form := range m {
			out[w] = regexp.MustCompile(`(?s)\A` + w + form + `\z`)
		}
		return out
	}()
	comma = regexp.MustCompile(`[ \t\r]*,[ \t\r]*`)
)

// parseModel reads line by line, by forms.
func parseModel(s string) (api.Config, api.Errno, int) {
	if len(s) > maxText {
		return api.Config{}, api.ErrSize, 0
	}
	c := api.Config{Resolve: -1, Lookback: -1}
	for i, text := range strings.Split(s, "\n") {
		text = strings.Trim(remark.FindStringSubmatch(text)[1], " \t\r")
		if text != "" && !lineModel(&c, text) {
			return api.Config{}, api.ErrLine, i
		}
	}
	if c.Resolve == -1 {
		c.Resolve = 300000
	}
	if c.Lookback == -1 {
		c.Lookback = 300000
	}
	if e, at := rightModel(c); e != api.OK {
		return api.Config{}, e, at
	}
	return c, api.OK, 0
}

func lineModel(c *api.Config, text string) bool {
	word := strings.FieldsFunc(text, func(r rune) bool { return r == ' ' || r == '\t' || r == '\r' })[0]
	form := forms[word]
	if form == nil || !form.MatchString(text) {
		return false
	}
	p := form.FindStringSubmatch(text)
	fine := true
	spanOf := func(s string, otherwise int64) int64 {
		if s == "" {
			return otherwise
		}
		n, e := lex.Span(s)
		fine = fine && e == api.OK
		return n
	}
	setOf := func(s string) []api.Label {
		if s == "" {
			return nil
		}
		l, e, _ := labels.Parse(s)
		fine = fine && e == api.OK
		return l
	}
	listOf := func(s string) []api.Matcher {
		if s == "" {
			return nil
		}
		l, e, _ := match.Parse(s)
		fine = fine && e == api.OK
		return l
	}
	namesOf := func(s string) []string {
		if s == "" {
			return nil
		}
		return comma.Split(s, -1)
	}
	rule := func(r api.Rule) {
		if len(c.Groups) == 0 {
			fine = false
			return
		}
		g := &c.Groups[len(c.Groups)-1]
		g.Rules = append(g.Rules, r)
	}
	switch word {
	case "resolve":
		fine = c.Resolve == -1
		c.Resolve = spanOf(p[1], 0)
	case "lookback":
		fine = c.Lookback == -1
		c.Lookback = spanOf(p[1], 0)
	case "receiver":
		fine = isName(p[1])
		c.Receivers = append(c.Receivers, p[1])
	case "group":
		fine = isName(p[1])
		c.Groups = append(c.Groups, api.Group{Name: p[1], Every: spanOf(p[2], 0)})
	case "alert":
		name, ok := unquoteModel(p[1])
		fine = ok
		rule(api.Rule{Name: name, For: spanOf(p[2], 0), Keep: spanOf(p[3], 0), Labels: setOf(p[4]), Expr: p[5]})
	case "record":
		fine = labels.Metric(p[1])
		rule(api.Rule{Record: true, Name: p[1], Labels: setOf(p[2]), Expr: p[3]})
	case "route":
		r := api.Route{Parent: -1, Wait: 30000, Interval: 300000, Repeat: 14400000}
		if p[1] == "" && len(c.Routes) > 0 {
			return false
		}
		if p[1] != "" {
			n, err := strconv.ParseInt(p[1], 10, 32)
			if err != nil || int(n) >= len(c.Routes) {
				return false
			}
			r = c.Routes[n]
			r.Parent = int(n)
		}
		fine = isName(p[2])
		by, all := r.By, r.All
		if p[4] != "" {
			by, all = nil, p[4] == "*"
			if !all {
				by = namesOf(p[4])
			}
		}
		c.Routes = append(c.Routes, api.Route{Parent: r.Parent, Receiver: p[2], Matchers: listOf(p[3]), By: by, All: all, Wait: spanOf(p[5], r.Wait), Interval: spanOf(p[6], r.Interval), Repeat: spanOf(p[7], r.Repeat), Continue: p[8] != ""})
	case "inhibit":
		c.Inhibits = append(c.Inhibits, api.Inhibit{Source: listOf(p[1]), Target: listOf(p[2]), Equal: namesOf(p[3])})
	}
	return fine
}

// unquoteModel: what lex.Quote has made this text of?
func unquoteModel(s string) (string, bool) {
	var b strings.Builder
	in := s[1 : len(s)-1]
	for i := 0; i < len(in); i++ {
		if in[i] != '\\' {
			b.WriteByte(in[i])
			continue
		}
		i++
		switch in[i] {
		case 'n':
			b.WriteByte('\n')
		case 't':
			b.WriteByte('\t')
		case 'r':
			b.WriteByte('\r')
		case 'x':
			if i+2 >= len(in) {
				return "", false
			}
			n, err := strconv.ParseUint(in[i+1:i+3], 16, 8)
			if err != nil {
				return "", false
			}
			b.WriteByte(byte(n))
			i += 2
		default:
			b.WriteByte(in[i])
		}
	}
	again, e := lex.Quote(b.String())
	return b.String(), e == api.OK && again == s
}

// printModel: by the words of P20.3.
func printModel(c api.Config) (string, api.Errno, int) {
	if e, at := rightModel(c); e != api.OK {
		return "", e, at
	}
	var s strings.Builder
	text := func(n int64) string { t, _ := lex.SpanText(n); return t }
	part := func(is bool, form string, args ...any) {
		if is {
			fmt.Fprintf(&s, form, args...)
		}
	}
	set := func(l []api.Label) string { t, _ := labels.Print(l); return t }
	list := func(l []api.Matcher) string { t, _, _ := match.Print(l); return t }
	fmt.Fprintf(&s, "resolve %s\nlookback %s\n", text(c.Resolve), text(c.Lookback))
	for _, name := range c.Receivers {
		fmt.Fprintf(&s, "receiver %s\n", name)
	}
	for _, g := range c.Groups {
		fmt.Fprintf(&s, "group %s every %s\n", g.Name, text(g.Every))
		for _, r := range g.Rules {
			name, _ := lex.Quote(r.Name)
			part(!r.Record, "alert %s", name)
			part(r.Record, "record %s", r.Name)
			part(r.For > 0, " for %s", text(r.For))
			part(r.Keep > 0, " keep %s", text(r.Keep))
			part(len(r.Labels) > 0, " labels %s", set(r.Labels))
			fmt.Fprintf(&s, " expr %s\n", r.Expr)
		}
	}
	for i, r := range c.Routes {
		s.WriteString("route")
		part(i > 0, " parent %d", r.Parent)
		part(true, " receiver %s", r.Receiver)
		part(len(r.Matchers) > 0, " match %s", list(r.Matchers))
		part(r.All, " by *")
		part(len(r.By) > 0, " by %s", strings.Join(r.By, ", "))
		part(true, " wait %s interval %s repeat %s", text(r.Wait), text(r.Interval), text(r.Repeat))
		part(r.Continue, " continue")
		s.WriteString("\n")
	}
	for _, x := range c.Inhibits {
		part(true, "inhibit source %s target %s", list(x.Source), list(x.Target))
		part(len(x.Equal) > 0, " equal %s", strings.Join(x.Equal, ", "))
		s.WriteString("\n")
	}
	if s.Len() > maxText {
		return "", api.ErrSize, 0
	}
	return s.String(), api.OK, 0
}

// written: does P20.5's condition hold?
func written(c api.Config) bool {
	for i, r := range c.Routes {
		if i == 0 || len(r.By) > 0 || r.All {
			continue
		}
		if p := c.Routes[r.Parent]; len(p.By) > 0 || p.All {
			return false
		}
	}
	return true
}

// source answers random things.
type source struct{ *rand.Rand }

func newSource(seed int64) source { return source{rand.New(rand.NewSource(seed))} }

func (s source) pick(l ...string) string { return l[s.Intn(len(l))] }

func (s source) span(least int64) int64 {
	switch s.Intn(4) {
	case 0:
		return least
	case 1:
		return maxSpan
	case 2:
		return int64(s.Intn(100)+1) * 1000
	}
	return s.Int63n(maxSpan) + 1
}

func (s source) value() string {
	return s.pick("1", "critical", "#", `a"b`, `\`, "\n", "}{", "é", "a b", "\t\r", "expr")
}

func (s source) labelName() string {
	return s.pick("a", "b", "job", "instance", "wait", "continue", "expr", "x9_")
}

func (s source) set() []api.Label {
	var l []api.Label
	for _, name := range []string{"a", "b", "for", "severity"} {
		if s.Intn(3) == 0 {
			l = append(l, api.Label{Name: name, Value: s.value()})
		}
	}
	return l
}

func (s source) matchers(least int) []api.Matcher {
	var l []api.Matcher
	for range least + s.Intn(3) {
		m := api.Matcher{Op: 1 + s.Intn(4), Name: s.labelName(), Value: s.value()}
		if m.Op >= api.MRe {
			m.Value = s.pick("a|b", "", "c.*", "#", `\}`, `"+`)
		}
		l = append(l, m)
	}
	return l
}

func (s source) names() []string {
	var l []string
	for range s.Intn(4) {
		if name := s.labelName(); !slices.Contains(l, name) {
			l = append(l, name)
		}
	}
	return l
}

func (s source) rule() api.Rule {
	r := api.Rule{Expr: s.pick("up == 0", "1", "sum by (job) (rate(up{a=\"}\"}[5m])) > 1", "time()", "up{x='\"'}", "m\t+ \r 2", "expr"), Labels: s.set()}
	if s.Intn(2) == 0 {
		r.Record = true
		r.Name = s.pick("r", "job:up", ":", "expr", "labels")
		return r
	}
	r.Name = s.pick("Down", "a b", `"`, `\`, "#", "\n\t\r\x00", "é", "expr 1", "for")
	if s.Intn(2) == 0 {
		r.For = s.span(0)
	}
	if s.Intn(2) == 0 {
		r.Keep = s.span(0)
	}
	return r
}

// config answers a right configuration.
func (s source) config() api.Config {
	c := base()
	c.Resolve, c.Lookback = s.span(1), s.span(1)
	for i := range s.Intn(3) {
		c.Receivers = append(c.Receivers, s.pick("every", "by", "9.-_")+strconv.Itoa(i))
	}
	for i := range s.Intn(4) {
		g := api.Group{Name: s.pick("g", "group", "9.") + strconv.Itoa(i), Every: s.span(1)}
		for range s.Intn(4) {
			g.Rules = append(g.Rules, s.rule())
		}
		c.Groups = append(c.Groups, g)
	}
	c.Routes = nil
	for i := range 1 + s.Intn(5) {
		r := api.Route{Parent: -1, Receiver: s.pick(c.Receivers...), By: s.names(), Wait: s.span(0), Interval: s.span(1), Repeat: s.span(1)}
		if s.Intn(4) == 0 {
			r.By, r.All = nil, true
		}
		if i > 0 {
			r.Parent = s.Intn(i)
			r.Matchers = s.matchers(0)
			r.Continue = s.Intn(2) == 0
		}
		c.Routes = append(c.Routes, r)
	}
	for range s.Intn(3) {
		c.Inhibits = append(c.Inhibits, api.Inhibit{Source: s.matchers(1), Target: s.matchers(1), Equal: s.names()})
	}
	return c
}

// checkParse holds Parse against the model.
func checkParse(t *testing.T, s string) (api.Config, api.Errno, int) {
	t.Helper()
	c, e, at := Parse(s)
	want, f, place := parseModel(s)
	if e != f || at != place || !alike(c, want) {
		t.Errorf("Parse(%.300q) = %+v, %d, %d; want %+v, %d, %d", s, c, e, at, want, f, place)
	}
	return c, e, at
}
