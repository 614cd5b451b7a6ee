package shell

import (
	"fmt"
	"math/rand"
	"regexp"
	"slices"
	"strconv"
	"strings"
	"testing"

	"tocsin/api"
	"tocsin/config"
	"tocsin/expo"
	"tocsin/http"
	"tocsin/labels"
	"tocsin/lex"
	"tocsin/match"
	"tocsin/mono"
	"tocsin/parse"
	"tocsin/regex"
)

// model goes by the words of the chapter: a machine of its own, and the layers' calls.
type model struct {
	m *mono.Machine
}

// forms: what stands behind a command; W is a word, N a number, R the rest.
var forms = map[string]string{
	"tick": "N", "get": "W", "delete": "W", "post": "WR", "take": "W", "refuse": "W",
	"now": "", "counts": "", "files": "", "series": "", "active": "", "alerts": "", "silences": "", "marks": "", "config": "",
	"expr": "R", "labels": "R", "regex": "WR", "float": "W", "span": "W", "json": "R",
}

var (
	aWord   = regexp.MustCompile(`(?s)^[ \t]*([^ \t]+)(.*)$`)
	aNumber = regexp.MustCompile(`^[0-9]{1,16}$`)
	aSign   = regexp.MustCompile(`(?s)\\[\\n]`)
)

func fault(e api.Errno) string { return fmt.Sprintf("error %d", e) }

func faultAt(e api.Errno, at int) string { return fmt.Sprintf("error %d at %d", e, at) }

func (x *model) line(line string) string {
	if len(line) > 65536 {
		return "error 4"
	}
	var words []string
	rests := []string{line}
	for {
		found := aWord.FindStringSubmatch(rests[len(rests)-1])
		if found == nil {
			break
		}
		words, rests = append(words, found[1]), append(rests, strings.Trim(found[2], " \t"))
	}
	if len(words) == 0 || words[0][0] == '#' {
		return ""
	}
	told := x.command(words, rests)
	if len(told) > 1<<20 {
		return "error 4"
	}
	return told
}

func (x *model) command(words, rests []string) string {
	form, is := forms[words[0]]
	switch {
	case words[0] == "crash":
		return x.crash(words[1:])
	case !is:
		return "error 300"
	case len(words)-1 < len(form), len(words)-1 > len(form) && !strings.HasSuffix(form, "R"):
		return "error 301"
	case form == "N" && !aNumber.MatchString(words[1]):
		return "error 1"
	}
	rest := rests[len(form)]
	switch words[0] {
	case "tick":
		n, _ := strconv.ParseInt(words[1], 10, 64)
		return x.step(api.Entry{Kind: api.ETick, N: n})
	case "get", "delete":
		method := map[string]string{"get": "GET", "delete": "DELETE"}[words[0]]
		return x.step(api.Entry{Kind: api.ERequest, Text: method + " " + words[1] + " HTTP/1.1\r\n\r\n"})
	case "post":
		body := aSign.ReplaceAllStringFunc(rest, func(s string) string { return map[string]string{`\n`: "\n", `\\`: `\`}[s] })
		return x.step(api.Entry{Kind: api.ERequest, Text: fmt.Sprintf("POST %s HTTP/1.1\r\nContent-Length: %d\r\n\r\n%s", words[1], len(body), body)})
	case "take":
		return x.step(api.Entry{Kind: api.EAnswer, Text: words[1], N: 1})
	case "refuse":
		return x.step(api.Entry{Kind: api.EAnswer, Text: words[1], N: 0})
	case "expr", "labels", "regex", "float", "span", "json":
		return layer(words, rest)
	}
	return x.told(words[0])
}

func (x *model) crash(words []string) string {
	if len(words)%2 == 1 {
		return "error 301"
	}
	var keeps []api.Keep
	for i := 0; i < len(words); i += 2 {
		if !aNumber.MatchString(words[i+1]) {
			return "error 1"
		}
		n, _ := strconv.Atoi(words[i+1])
		keeps = append(keeps, api.Keep{Name: words[i], N: n})
	}
	return x.step(api.Entry{Kind: api.ECrash, Keeps: keeps})
}

func (x *model) step(e api.Entry) string {
	out, f := x.m.Step(e)
	if f != api.OK {
		return fault(f)
	}
	var all []string
	for _, one := range out {
		if one.Answer == "" {
			all = append(all, "notice "+one.Notice.Payload)
			continue
		}
		code, _, body, _ := http.Read([]byte(one.Answer))
		all = append(all, fmt.Sprintf("%d %s", code, body))
	}
	if len(all) == 0 {
		return "ok"
	}
	return strings.Join(all, "\n")
}

func set(l []api.Label) string {
	s, e := labels.Print(l)
	if e != api.OK {
		return fault(e)
	}
	return s
}

// told answers what is told of the machine.
func (x *model) told(what string) string {
	var all []string
	put := func(parts ...any) {
		all = append(all, strings.TrimSuffix(fmt.Sprintln(parts...), "\n"))
	}
	switch what {
	case "now":
		put(x.m.Now())
	case "counts":
		a, b := x.m.Counts()
		put(a, b)
	case "files":
		return strings.Join(x.m.Files(), " ")
	case "series":
		for _, s := range x.m.Series() {
			put(set(s.Labels), len(s.Samples))
		}
	case "active":
		for _, a := range x.m.Active() {
			put(set(a.Labels), a.State, a.Since, a.Fired, a.Gone)
		}
	case "alerts":
		for _, a := range x.m.Alerts() {
			put(set(a.Labels), a.Start, a.End)
		}
	case "silences":
		for _, s := range x.m.Silences() {
			text, _, _ := match.Print(s.Matchers)
			put(s.Id, text, s.From, s.To)
		}
	case "marks":
		for _, m := range x.m.Marks() {
			receiver, _ := lex.Quote(m.Receiver)
			key, _ := lex.Quote(m.Key)
			put(receiver, key, m.At, len(m.Firing), len(m.Resolved))
		}
	case "config":
		c, _ := x.m.Config()
		text, _, _ := config.Print(c)
		return text
	}
	return strings.Join(all, "\n")
}

// layer answers what a layer below the machine tells.
func layer(words []string, rest string) string {
	switch words[0] {
	case "expr":
		tree, e, at := parse.Parse(rest)
		if e != api.OK {
			return faultAt(e, at)
		}
		kind, e, at := parse.Check(tree)
		if e != api.OK {
			return faultAt(e, at)
		}
		text, _ := parse.Print(tree)
		return fmt.Sprintf("%d %s", kind, text)
	case "labels":
		l, e, at := labels.Parse(rest)
		if e != api.OK {
			return faultAt(e, at)
		}
		return set(l)
	case "regex":
		r, e, at := regex.Compile(words[1])
		if e != api.OK {
			return faultAt(e, at)
		}
		return map[bool]string{true: "yes", false: "no"}[r.Match(rest)]
	case "float":
		v, e := expo.Float(words[1])
		if e != api.OK {
			return fault(e)
		}
		return expo.Text(v)
	case "span":
		n, e := lex.Span(words[1])
		if e != api.OK {
			return fault(e)
		}
		return fmt.Sprint(n)
	}
	j, e, at := http.ReadJson(rest)
	if e != api.OK {
		return faultAt(e, at)
	}
	text, e := http.WriteJson(j)
	if e != api.OK {
		return fault(e)
	}
	return text
}

// both is a shell and its model.
type both struct {
	t *testing.T
	s *Shell
	x *model
}

func newBoth(t *testing.T) both { return both{t, New(), &model{mono.New()}} }

func (b both) line(line string) string {
	b.t.Helper()
	got, want := b.s.Line(line), b.x.line(line)
	if got != want {
		b.t.Fatalf("%.300q: %.1000q; want %.1000q", line, got, want)
	}
	return got
}

// standing tells all of the machine.
func standing(m *mono.Machine) string {
	var all []string
	x := &model{m}
	for _, what := range []string{"now", "counts", "files", "series", "active", "alerts", "silences", "marks", "config"} {
		all = append(all, x.told(what))
	}
	return strings.Join(all, "\n\n")
}

type source struct{ *rand.Rand }

func newSource(seed int64) source { return source{rand.New(rand.NewSource(seed))} }

func (r source) pick(l ...string) string { return l[r.Intn(len(l))] }

func (r source) blanks() string { return r.pick(" ", " ", " ", "\t", "  ", " \t ") }

// script answers a line of a script, most of which can be.
func (r source) line(now int64) string {
	words := func(l ...string) string {
		s := r.pick("", "", "", "\t") + l[0]
		for _, one := range l[1:] {
			s += r.blanks() + one
		}
		return s + r.pick("", "", "", " ", "\t ")
	}
	switch r.Intn(14) {
	case 0, 1, 2:
		return words("tick", fmt.Sprint(now+int64(r.Intn(4))*1000))
	case 3, 4:
		return words("post", "/api/write", fmt.Sprintf(`up{job="%s"} %s\nload %d`, r.pick("a", "b"), r.pick("0", "1"), r.Intn(9)))
	case 5:
		return words("post", "/reload", r.pick(`receiver team\ngroup g every 1s\nalert "A" for 1s labels {a="\\n"} expr up == 0\nroute receiver team by job wait 0s`, `receiver team\ngroup g every 1s\nalert "A" expr up == 0\nrecord x expr up\nroute receiver team by job wait 1s interval 1s repeat 5s`, `receiver`, `receiver team\nroute receiver nobody`))
	case 6:
		return words("post", "/api/silences", fmt.Sprintf(`{"matchers":"{job=\"%s\"}","from":0,"to":%d}`, r.pick("a", "b", "c"), now+int64(r.Intn(9000))))
	case 7:
		return words(r.pick("get", "delete"), r.pick("/status", "/api/silences?id=1", "/api/silences", "/api/alerts", "/api/query?query=up", "/api/query?query=up%2B", "nope", "/x"))
	case 8:
		return words(r.pick("take", "refuse"), r.pick("team", "x", strings.Repeat("x", 65)))
	case 9:
		return words("crash", r.pick("", "data.00000001 9", "data.00000001 9999 data.check 7", "x", "x y", "x 1 x 1", "x y z", "x 12345678901234567"))
	case 10:
		return words(r.pick("now", "counts", "files", "series", "active", "alerts", "silences", "marks", "config"), r.pick("", "", "", "", "x"))
	case 11:
		return words(r.pick("expr", "labels", "json"), r.pick("a + b", "a +", `{a="1" , }`, `{a="1"`, "[1, {\"a\":2}]", "[01]", "sum(up)", "1 > 2", "foo(1)", "", "1e999"))
	case 12:
		return words(r.pick("float", "span", "regex"), r.pick("1h", "1.50", "x", "a.*", "(", ""), r.pick("", "", "abc", "1h d"))
	}
	return words(r.pick("", "# a remark", "#", "foo", "tick x", "tick -1", "tick", "tick 1 2", "TICK 1", "get", "get a b", "post /x", "take", "now now", "expr", "labels", "json", "regex a", "float", "float 1 2", "span", "span 1h 1m", "\x00", "é", "\xff"))
}

// P30.3, P11: what a line tells is what the layers' calls answer, line by line.
func TestModel(t *testing.T) {
	for seed := range int64(60) {
		r := newSource(seed)
		b := newBoth(t)
		var lines, told []string
		for range 150 {
			line := r.line(b.x.m.Now())
			lines = append(lines, line)
			if s := b.line(line); s != "" {
				told = append(told, s+"\n")
			}
		}
		if standing(b.s.machine) != standing(b.x.m) || b.s.told.Load() != 150 {
			t.Fatal(seed, "another machine")
		}
		if got := Run(strings.Join(lines, "\n")); got != strings.Join(told, "") {
			t.Fatalf("Run: %.2000q; want %.2000q", got, told)
		}
	}
}

// P30.5: a line that is answered with an error has changed nothing.
func TestP30_5(t *testing.T) {
	faults := 0
	for seed := range int64(30) {
		r := newSource(3000 + seed)
		s := New()
		for range 150 {
			was := standing(s.machine)
			line := r.line(s.machine.Now())
			told := s.Line(line)
			if !strings.HasPrefix(told, "error") {
				continue
			}
			if faults++; standing(s.machine) != was {
				t.Fatalf("%q: %q", line, told)
			}
		}
	}
	if faults < 500 {
		t.Error("hardly any errors", faults)
	}
}

// P30.4: a shell's answers hang on its own lines alone.
func TestP30_4(t *testing.T) {
	r := newSource(4)
	first := New()
	var script, want []string
	for range 200 {
		script = append(script, r.line(first.machine.Now()))
		want = append(want, first.Line(script[len(script)-1]))
	}
	one, other := New(), New()
	var got []string
	for _, line := range script {
		got = append(got, one.Line(line))
		other.Line(r.line(other.machine.Now()))
	}
	if !slices.Equal(got, want) {
		t.Error("another answer to the same lines")
	}
}

func FuzzShell(f *testing.F) {
	for _, s := range []string{"now", "tick 5\nnow", "post /api/write up 1\\nx 2\nseries", "expr a+b", "json [1, 2]", "regex a.* abc", "crash a 1 b 2", "# x\n\n \t", "labels {a=\"\\\\\"}", "post /x \\\\\\n\\"} {
		f.Add(s)
	}
	f.Fuzz(func(t *testing.T, script string) {
		if len(script) > 20000 {
			return
		}
		b := newBoth(t)
		var want strings.Builder
		for _, line := range strings.Split(script, "\n") {
			if told := b.line(line); told != "" {
				want.WriteString(told + "\n")
			}
		}
		if got := Run(script); got != want.String() {
			t.Errorf("Run: %.500q; want %.500q", got, want.String())
		}
	})
}
