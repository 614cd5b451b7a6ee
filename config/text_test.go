package config

import (
	"fmt"
	"reflect"
	"slices"
	"strings"
	"testing"

	"tocsin/api"
)

// Lines with which every line of a table can stand.
const (
	ahead  = "receiver team\ngroup g every 1m\n"
	behind = "\nroute receiver team\n"
)

func TestP20_2_Lines(t *testing.T) {
	text := strings.Join([]string{
		"resolve 1h30m",
		"lookback 1ms",
		"receiver team",
		"group g.1 every 10s",
		`alert "Down" for 5m keep 90s labels {severity="critical",a="1"} expr up{job="a"} == 0`,
		`record job:up labels {b="2"} expr sum by (job) (up)`,
		"receiver other-2",
		`alert "plain" expr 1`,
		"group h every 1y",
		"record r expr time()",
		`route receiver team by job,instance wait 0s interval 1s repeat 2s`,
		`route parent 0 receiver other-2 match {a="1",b=~"c|d"} by * wait 3s interval 4s repeat 5s continue`,
		`inhibit source {severity="critical"} target {severity="warning"} equal job , instance`,
		`route parent 1 receiver team`,
		`inhibit source {a="1"} target {b="2"}`,
	}, "\n")
	want := api.Config{
		Resolve: 5400000, Lookback: 1, Receivers: []string{"team", "other-2"},
		Groups: []api.Group{
			{Name: "g.1", Every: 10000, Rules: []api.Rule{
				{Name: "Down", For: 300000, Keep: 90000, Labels: []api.Label{{Name: "a", Value: "1"}, {Name: "severity", Value: "critical"}}, Expr: `up{job="a"} == 0`},
				{Record: true, Name: "job:up", Labels: []api.Label{{Name: "b", Value: "2"}}, Expr: "sum by (job) (up)"},
				{Name: "plain", Expr: "1"},
			}},
			{Name: "h", Every: 31536000000, Rules: []api.Rule{{Record: true, Name: "r", Expr: "time()"}}},
		},
		Routes: []api.Route{
			{Parent: -1, Receiver: "team", By: []string{"job", "instance"}, Interval: 1000, Repeat: 2000},
			{Parent: 0, Receiver: "other-2", Matchers: []api.Matcher{{Op: api.MEq, Name: "a", Value: "1"}, {Op: api.MRe, Name: "b", Value: "c|d"}}, All: true, Wait: 3000, Interval: 4000, Repeat: 5000, Continue: true},
			{Parent: 1, Receiver: "team", All: true, Wait: 3000, Interval: 4000, Repeat: 5000},
		},
		Inhibits: []api.Inhibit{
			{Source: []api.Matcher{{Op: api.MEq, Name: "severity", Value: "critical"}}, Target: []api.Matcher{{Op: api.MEq, Name: "severity", Value: "warning"}}, Equal: []string{"job", "instance"}},
			{Source: []api.Matcher{{Op: api.MEq, Name: "a", Value: "1"}}, Target: []api.Matcher{{Op: api.MEq, Name: "b", Value: "2"}}},
		},
	}
	for _, s := range []string{text, text + "\n", text + "\n\n", "\n" + text} {
		if c, e, at := checkParse(t, s); e != api.OK || at != 0 || !alike(c, want) {
			t.Errorf("%+v, %d, %d; want %+v", c, e, at, want)
		}
	}
	// What has no order among one another may change places.
	lines := strings.Split(text, "\n")
	moved := strings.Join(slices.Concat(lines[10:13], lines[13:14], lines[14:], lines[3:6], lines[7:10], lines[2:3], lines[6:7], lines[1:2], lines[:1]), "\n")
	if c, e, at := checkParse(t, moved); e != api.OK || at != 0 || !alike(c, want) {
		t.Errorf("%+v, %d, %d; want %+v", c, e, at, want)
	}
}

// slot is a part of a line; it may be left out, unless it must be there.
type slot struct {
	text string
	must bool
}

// slots are the parts of each line of the table, by the line's word and what stands right behind it.
func slots() map[string][]slot {
	return map[string][]slot{
		"group h":     {{"every 1m", true}},
		`alert "A"`:   {{"for 5m", false}, {"keep 5m", false}, {`labels {a="1"}`, false}, {"expr up", true}},
		"record r":    {{`labels {a="1"}`, false}, {"expr up", true}},
		"route":       {{"parent 0", true}, {"receiver team", true}, {`match {a="1"}`, false}, {"by a, b", false}, {"wait 1s", false}, {"interval 2s", false}, {"repeat 3s", false}, {"continue", false}},
		"inhibit":     {{`source {a="1"}`, true}, {`target {b="1"}`, true}, {"equal a,b", false}},
		"receiver x":  {},
		"resolve 1s":  {},
		"lookback 1s": {},
	}
}

// withLine answers a text in which a line stands as the third or fourth one.
func withLine(line string) string {
	return ahead + "route receiver team by job wait 7s interval 8s repeat 9s\n" + line
}

func joined(head string, l []slot) string {
	for _, x := range l {
		head += " " + x.text
	}
	return head
}

// TestP20_2_LeftOut: parts that may be left out may, others may not.
func TestP20_2_LeftOut(t *testing.T) {
	for head, l := range slots() {
		for bits := range 1 << len(l) {
			var some []slot
			want := api.OK
			for i, x := range l {
				if bits>>i&1 == 1 {
					some = append(some, x)
				} else if x.must {
					want = api.ErrLine
				}
			}
			line := joined(head, some)
			_, e, at := checkParse(t, withLine(line))
			if e != want || e == api.ErrLine && at != 3 {
				t.Error(line, e, at)
			}
		}
	}
}

// TestP20_2_Order: parts stand in the order of the table, each once.
func TestP20_2_Order(t *testing.T) {
	s := newSource(202)
	for head, l := range slots() {
		for range 300 {
			other := slices.Clone(l)
			s.Shuffle(len(other), func(i, j int) { other[i], other[j] = other[j], other[i] })
			line := joined(head, other)
			_, e, at := checkParse(t, withLine(line))
			if (e == api.OK) != slices.Equal(l, other) {
				t.Error(line, e, at)
			}
			if len(l) == 0 || strings.HasPrefix(other[0].text, "expr") {
				continue
			}
			twice := joined(head, slices.Insert(slices.Clone(l), 0, other[0]))
			if _, e, at := checkParse(t, withLine(twice)); e != api.ErrLine || at != 3 {
				t.Error(twice, e, at)
			}
		}
		if len(l) > 0 && strings.HasPrefix(l[len(l)-1].text, "expr") {
			continue
		}
		for _, more := range []string{"x", "1", `"x"`, "{}", ",", "*", "\\"} {
			line := joined(head, l) + " " + more
			if _, e, at := checkParse(t, withLine(line)); e != api.ErrLine || at != 3 {
				t.Error(line, e, at)
			}
		}
	}
}

// TestP20_2_Unreadable: lines that are not as the table says.
func TestP20_2_Unreadable(t *testing.T) {
	for _, line := range []string{
		"nothing", "Receiver x", "receiverx", "\"receiver\" x", "receiver\vx", "receiver\u00a0x", "{", "}", "\"", "'", "\\", "\xff", "\x00", "=", "every 1m", "expr up", "by a", "parent 0", "receivers x", "for 5m",
		"resolve", "resolve 5", "resolve m", "resolve 5m5m", "resolve 1s1m", "resolve -5m", "resolve 5 m", "resolve \"5m\"", "resolve 5m 5m", "resolve 5m,", "resolve 100y", "resolve 1099511627777ms", "resolve 1.5s",
		"lookback", "lookback x", "lookback 5M", "lookback 1099511627777ms", "lookback 5m 1",
		"receiver", "receiver \"x\"", "receiver x y", "receiver x,y", "receiver x/y", "receiver é", "receiver " + strings.Repeat("n", 65), "receiver x:", "receiver \xff",
		"group", "group h", "group every 1m", "group h every", "group h every 1", "group h every 100y", "group h every 1m 2m", "group h 1m", "group h: every 1m", "group \"h\" every 1m", "group h,i every 1m", "group " + strings.Repeat("n", 65) + " every 1m",
		"alert", "alert A expr up", "alert 'A' expr up", "alert \"A expr up", "alert \"A\"expr up", "alert\"A\" expr up", "alert \"A\\\" expr up", "alert \"A\\q\" expr up", "alert \"A\\x4\" expr up", "alert \"A\\xg0\" expr up", "alert \"A\\x80\" expr up", "alert \"A\xff\" expr up", "alert \"A\" \"B\" expr up", "alert \"A\"", "alert \"A\" up", "alert \"A\" expression up", "alert \"A\" expr{a=\"1\"}", "alert \"A\" expr(up)", "alert expr up",
		"alert \"A\\x41\" expr up", "alert \"A\\'\" expr up", "alert \"A\tB\" expr up", "alert \"A\\x0A\" expr up", "alert \"A\\x1F\" expr up",
		"alert \"A\" for expr up", "alert \"A\" for 5 expr up", "alert \"A\" for 5m5m expr up", "alert \"A\" for 100y expr up", "alert \"A\" for 5m, expr up", "alert \"A\" for5m expr up", "alert \"A\" for -1s expr up", "alert \"A\" for", "alert \"A\" for 5m",
		"alert \"A\" keep expr up", "alert \"A\" keep x expr up", "alert \"A\" keep 100y expr up", "alert \"A\" keep", "alert \"A\" for 5m for 5m expr up", "alert \"A\" keep 5m keep 5m expr up",
		"alert \"A\" labels expr up", "alert \"A\" labels {expr up", "alert \"A\" labels a=\"1\" expr up", "alert \"A\" labels up{a=\"1\"} expr up", "alert \"A\" labels {a=\"1\"}expr up", "alert \"A\" labels{a=\"1\"} expr up", "alert \"A\" labels {a=1} expr up", "alert \"A\" labels {a} expr up", "alert \"A\" labels {a=\"1\",a=\"1\"} expr up", "alert \"A\" labels {{a=\"1\"}} expr up", "alert \"A\" labels {a=\"1\"}} expr up", "alert \"A\" labels {9=\"1\"} expr up", "alert \"A\" labels {a=\"\\t\"} expr up", "alert \"A\" labels {a=\"\xff\"} expr up", "alert \"A\" labels {a=\"" + strings.Repeat("v", 257) + "\"} expr up", "alert \"A\" labels {a=\"}\" expr up", "alert \"A\" labels {a=\"1\"\r} expr up", "alert \"A\" labels {a=\"1\"}", "alert \"A\" labels", "alert \"A\" labels {} {} expr up", "alert \"A\" labels } expr up", "alert \"A\" labels a{} expr up",
		"record", "record r", "record r up", "record expr up", "record \"r\" expr up", "record 9r expr up", "record a-b expr up", "record é expr up", "record r for 5m expr up", "record r keep 5m expr up", "record r labels expr up", "record r labels {a} expr up", "record r{a=\"1\"} expr up", "record r labels {a=\"1\"}expr up", "record " + strings.Repeat("n", 257) + " expr up",
		"route receiver team", "route parent 1 receiver team", "route parent 2 receiver team", "route parent 2147483647 receiver team", "route parent 2147483648 receiver team", "route parent 4294967296 receiver team", "route parent 18446744073709551616 receiver team", "route parent -1 receiver team", "route parent +0 receiver team", "route parent 0x0 receiver team", "route parent 0_0 receiver team", "route parent x receiver team", "route parent receiver team", "route parent 0 team", "route parent 0", "route parent \u0660 receiver team", "route parent 0, receiver team", "route parent 0 0 receiver team", "route parent 0.0 receiver team",
		"route", "routereceiver team", "route parent 0 receiver", "route parent 0 receiver a/b", "route parent 0 receiver \"team\"", "route parent 0 receiver team team",
		"route parent 0 receiver team match", "route parent 0 receiver team match a=\"1\"", "route parent 0 receiver team match {a=\"1\"", "route parent 0 receiver team match {a}", "route parent 0 receiver team match {a==\"1\"}", "route parent 0 receiver team match {a=~\"(\"}", "route parent 0 receiver team match {a=\"1\"}continue", "route parent 0 receiver team match{a=\"1\"}", "route parent 0 receiver team match up{a=\"1\"}", "route parent 0 receiver team match {" + strings.Repeat("a=\"1\",", 17) + "}", "route parent 0 receiver team match {9=\"1\"}", "route parent 0 receiver team match {a=\"\xff\"}",
		"route parent 0 receiver team by", "route parent 0 receiver team by ,", "route parent 0 receiver team by a,", "route parent 0 receiver team by ,a", "route parent 0 receiver team by a,,b", "route parent 0 receiver team by a b", "route parent 0 receiver team by a.b", "route parent 0 receiver team by a,b-", "route parent 0 receiver team by *,a", "route parent 0 receiver team by a,*", "route parent 0 receiver team by * a", "route parent 0 receiver team by **", "route parent 0 receiver team by *continue", "route parent 0 receiver team by \"a\"", "route parent 0 receiver team by {a}", "route parent 0 receiver team by é", "route parent 0 receiver team by a, wait 5s", "route parent 0 receiver team by wait 5s", "route parent 0 receiver team by a:b", "route parent 0 receiver team by *,", "route parent 0 receiver team by\u00a0a",
		"route parent 0 receiver team wait", "route parent 0 receiver team wait 5", "route parent 0 receiver team wait continue", "route parent 0 receiver team interval x", "route parent 0 receiver team repeat 100y", "route parent 0 receiver team interval", "route parent 0 receiver team repeat", "route parent 0 receiver team continue continue", "route parent 0 receiver team continue true", "route parent 0 receiver team continued", "route parent 0 receiver team labels {}", "route parent 0 receiver team expr up",
		"inhibit", "inhibit source {a=\"1\"}", "inhibit target {a=\"1\"}", "inhibit source {a=\"1\"} target", "inhibit source target {a=\"1\"}", "inhibit source {a=\"1\"}target {a=\"1\"}", "inhibit source{a=\"1\"} target {a=\"1\"}", "inhibit source {a=\"1\"} target {a=\"1\"} equal", "inhibit source {a=\"1\"} target {a=\"1\"} equal *", "inhibit source {a=\"1\"} target {a=\"1\"} equal a b", "inhibit source {a=\"1\"} target {a=\"1\"} equal a,", "inhibit source {a=\"1\"} target {a=\"1\"}equal a", "inhibit source {a=\"1\"} target {a=~\"(\"}", "inhibit source {a~\"1\"} target {a=\"1\"}", "inhibit source {a=\"1\"} {a=\"1\"}", "inhibit source {a=\"1\"} target {a=\"1\"} equal a equal b", "inhibit source {a=\"1\"} target {a=\"1\"} by a",
	} {
		if c, e, at := checkParse(t, withLine(line)); e != api.ErrLine || at != 3 || !alike(c, api.Config{}) {
			t.Errorf("%q: %+v, %d, %d", line, c, e, at)
		}
		// The first line that is at fault is told; what Right says is asked behind all lines.
		if _, e, at := checkParse(t, "receiver team\nreceiver team\n# a remark\n\n"+line+"\nx"); e != api.ErrLine || at != 4 {
			if !strings.HasPrefix(line, "route receiver") {
				t.Errorf("%q: %d, %d", line, e, at)
			}
		}
	}
}

// TestP20_2_Readable: odd lines that can be read.
func TestP20_2_Readable(t *testing.T) {
	for line, do := range map[string]func(c *api.Config){
		"resolve 1099511627776ms":  func(c *api.Config) { c.Resolve = maxSpan },
		"lookback 1m1s1ms":         func(c *api.Config) { c.Lookback = 61001 },
		"receiver receiver":        func(c *api.Config) { c.Receivers = append(c.Receivers, "receiver") },
		"receiver -":               func(c *api.Config) { c.Receivers = append(c.Receivers, "-") },
		"receiver x#y":             func(c *api.Config) { c.Receivers = append(c.Receivers, "x") },
		"group every every 1m":     func(c *api.Config) { c.Groups = append(c.Groups, api.Group{Name: "every", Every: 60000}) },
		"\t group\r\th \revery 1s": func(c *api.Config) { c.Groups = append(c.Groups, api.Group{Name: "h", Every: 1000}) },
		`alert "a\"#\\\n\t\r\x01\x7fé" expr 1`: func(c *api.Config) {
			c.Groups[0].Rules = []api.Rule{{Name: "a\"#\\\n\t\r\x01\x7fé", Expr: "1"}}
		},
		`alert "expr 2" expr 1`:                     func(c *api.Config) { c.Groups[0].Rules = []api.Rule{{Name: "expr 2", Expr: "1"}} },
		`alert "A" for 0s keep 0s labels {} expr 1`: func(c *api.Config) { c.Groups[0].Rules = []api.Rule{{Name: "A", Expr: "1"}} },
		`alert "A" labels { b = "}#\"" , a="", c="2", } expr 1 # "`: func(c *api.Config) {
			c.Groups[0].Rules = []api.Rule{{Name: "A", Expr: "1", Labels: []api.Label{{Name: "b", Value: `}#"`}, {Name: "c", Value: "2"}}}}
		},
		"alert \"A\" expr \t 1 +\r\t2 \r\t# + 3": func(c *api.Config) { c.Groups[0].Rules = []api.Rule{{Name: "A", Expr: "1 +\r\t2"}} },
		`alert "A" expr expr`:                    func(c *api.Config) { c.Groups[0].Rules = []api.Rule{{Name: "A", Expr: "expr"}} },
		`alert "A" expr up{a='"'}`:               func(c *api.Config) { c.Groups[0].Rules = []api.Rule{{Name: "A", Expr: `up{a='"'}`}} },
		`record expr expr 1`:                     func(c *api.Config) { c.Groups[0].Rules = []api.Rule{{Record: true, Name: "expr", Expr: "1"}} },
		`record : labels {a="1"} expr 1`: func(c *api.Config) {
			c.Groups[0].Rules = []api.Rule{{Record: true, Name: ":", Expr: "1", Labels: []api.Label{{Name: "a", Value: "1"}}}}
		},
		"route parent 0 receiver team by wait wait 5s continue": func(c *api.Config) {
			c.Routes = append(c.Routes, api.Route{Parent: 0, Receiver: "team", By: []string{"wait"}, Wait: 5000, Interval: 8000, Repeat: 9000, Continue: true})
		},
		"route parent 000000000000000000000 receiver team by * match": nil,
		"route parent 000000000000000000000 receiver team by *": func(c *api.Config) {
			c.Routes = append(c.Routes, api.Route{Parent: 0, Receiver: "team", All: true, Wait: 7000, Interval: 8000, Repeat: 9000})
		},
		"route parent 0 receiver team match { } by a\t,\rb ,c,d": func(c *api.Config) {
			c.Routes = append(c.Routes, api.Route{Parent: 0, Receiver: "team", By: []string{"a", "b", "c", "d"}, Wait: 7000, Interval: 8000, Repeat: 9000})
		},
		`inhibit source { a = "#" , } target {b!="}"} equal source,target`: func(c *api.Config) {
			c.Inhibits = []api.Inhibit{{Source: []api.Matcher{{Op: api.MEq, Name: "a", Value: "#"}}, Target: []api.Matcher{{Op: api.MNe, Name: "b", Value: "}"}}, Equal: []string{"source", "target"}}}
		},
	} {
		c, e, at := checkParse(t, withLine(line))
		if do == nil {
			if e != api.ErrLine {
				t.Errorf("%q: %d", line, e)
			}
			continue
		}
		want := base()
		want.Groups = []api.Group{{Name: "g", Every: 60000}}
		want.Routes[0] = api.Route{Parent: -1, Receiver: "team", By: []string{"job"}, Wait: 7000, Interval: 8000, Repeat: 9000}
		do(&want)
		if e != api.OK || at != 0 || !alike(c, want) {
			t.Errorf("%q: %+v, %d, %d; want %+v", line, c, e, at, want)
		}
	}
}

// TestP20_2_Right: what can be read, but not be, is told by Right.
func TestP20_2_Right(t *testing.T) {
	for line, x := range map[string]struct {
		e  api.Errno
		at int
	}{
		"resolve 0s":                                                 {api.ErrArg, 0},
		"lookback 0s":                                                {api.ErrArg, 0},
		"receiver team":                                              {api.ErrReceiver, 1},
		"group g every 1m":                                           {api.ErrGroup, 1},
		"group h every 0s":                                           {api.ErrGroup, 1},
		`alert "" expr up`:                                           {api.ErrRule, 0},
		`alert "A" expr`:                                             {api.ErrRule, 0},
		`alert "A" expr # up`:                                        {api.ErrRule, 0},
		`alert "A" expr up up`:                                       {api.ErrRule, 0},
		`alert "A" expr up{a="#"}`:                                   {api.ErrRule, 0},
		`alert "A" expr up{a='#'}`:                                   {api.ErrRule, 0},
		`alert "A" expr up{a='"'} # x`:                               {api.ErrRule, 0},
		`alert "A" expr "a"`:                                         {api.ErrRule, 0},
		`alert "A" expr for 5m expr 1`:                               {api.ErrRule, 0},
		`alert "A" labels {__name__="m"} expr up`:                    {api.ErrRule, 0},
		`alert "A" labels {alertname="m"} expr up`:                   {api.ErrRule, 0},
		`alert "` + strings.Repeat("n", 257) + `" expr up`:           {api.ErrRule, 0},
		`record r expr`:                                              {api.ErrRule, 0},
		`record ` + strings.Repeat("n", 65) + ` expr up`:             {api.ErrRule, 0},
		`record ` + strings.Repeat("n", 256) + ` expr up`:            {api.ErrRule, 0},
		`record r expr up[5m]`:                                       {api.ErrRule, 0},
		"route parent 0 receiver nobody":                             {api.ErrRoute, 1},
		"route parent 0 receiver team by 9":                          {api.ErrRoute, 1},
		"route parent 0 receiver team by a,a":                        {api.ErrRoute, 1},
		"route parent 0 receiver team by " + strings.Repeat("n", 65): {api.ErrRoute, 1},
		"route parent 0 receiver team by " + strings.Join(repeated(17), ","): {api.ErrRoute, 1},
		"route parent 0 receiver team interval 0s":                           {api.ErrRoute, 1},
		"route parent 0 receiver team repeat 0s":                             {api.ErrRoute, 1},
		`inhibit source {} target {a="1"}`:                                   {api.ErrInhibit, 0},
		`inhibit source {a="1"} target {}`:                                   {api.ErrInhibit, 0},
		`inhibit source {a="1"} target {a="1"} equal 9`:                      {api.ErrInhibit, 0},
		`inhibit source {a="1"} target {a="1"} equal a, a`:                   {api.ErrInhibit, 0},
	} {
		if c, e, at := checkParse(t, withLine(line)); e != x.e || at != x.at || !alike(c, api.Config{}) {
			t.Errorf("%q: %+v, %d, %d", line, c, e, at)
		}
	}
	for s, x := range map[string]struct {
		e  api.Errno
		at int
	}{
		"":                                      {api.ErrReceiver, 0},
		"\n\n":                                  {api.ErrReceiver, 0},
		"# nothing":                             {api.ErrReceiver, 0},
		"receiver team":                         {api.ErrRoute, 0},
		"route receiver team":                   {api.ErrReceiver, 0},
		"receiver team\nroute receiver t":       {api.ErrRoute, 0},
		"receiver a\nroute receiver a continue": {api.ErrRoute, 0},
		"receiver a\nroute receiver a match {a=\"1\"}":                                                                 {api.ErrRoute, 0},
		"receiver a\nroute receiver a match {} wait 0s":                                                                {api.OK, 0},
		strings.Repeat("receiver a\n", 33):                                                                             {api.ErrReceiver, 32},
		"receiver a\nroute receiver a\n" + strings.Repeat("route parent 0 receiver a\n", 64):                           {api.ErrRoute, 64},
		"receiver a\nroute receiver a\n" + strings.Repeat("inhibit source {} target {}\n", 33):                         {api.ErrInhibit, 32},
		"receiver a\nroute receiver a\n" + strings.Repeat("group g every 1s\n", 33):                                    {api.ErrGroup, 32},
		"receiver a\nroute receiver a\ngroup g every 1s\ngroup h every 1s\n" + strings.Repeat("record r expr 1\n", 65): {api.ErrGroup, 1},
		"receiver a\nroute receiver a\ngroup g every 1s\ngroup h every 1s\n" + strings.Repeat("record r expr 1\n", 64): {api.OK, 0},
	} {
		if c, e, at := checkParse(t, s); e != x.e || at != x.at || e != api.OK && !alike(c, api.Config{}) {
			t.Errorf("%q: %+v, %d, %d", s, c, e, at)
		}
	}
}

// TestP20_2_Place: lines that can not stand where they do.
func TestP20_2_Place(t *testing.T) {
	for s, at := range map[string]int{
		"resolve 5m\nresolve 5m":                                                       1,
		"resolve 0s\nlookback 5m\nresolve 5m":                                          2,
		"lookback 5m\n\nlookback 5m\nlookback 5m":                                      2,
		"lookback 5m\nlookback x":                                                      1,
		`alert "A" expr up`:                                                            0,
		"receiver team\n\nrecord r expr up\ngroup g every 1m":                          2,
		"route parent 0 receiver a":                                                    0,
		"route parent 1 receiver a":                                                    0,
		"route receiver a\nroute receiver a":                                           1,
		"route receiver a\nroute parent 1 receiver a\nroute parent 0 receiver a":       1,
		"route receiver a\nroute parent 2 receiver a\nroute parent 0 receiver a":       1,
		"route receiver a\nroute parent 0 receiver a\nroute parent 2 receiver a":       2,
		"route receiver a\nroute parent 0 receiver a\nx\nroute parent 5 receiver a\nx": 2,
	} {
		if c, e, got := checkParse(t, s); e != api.ErrLine || got != at || !alike(c, api.Config{}) {
			t.Errorf("%q: %+v, %d, %d", s, c, e, got)
		}
	}
}

// TestP20_2_Size: a text of MaxText bytes, and one more.
func TestP20_2_Size(t *testing.T) {
	text := ahead + "route receiver team\n"
	for _, fill := range []string{"\n", " ", "#"} {
		full := text + strings.Repeat(fill, maxText-len(text))
		if _, e, at := checkParse(t, full); e != api.OK || at != 0 {
			t.Error(fill, e, at)
		}
		if c, e, at := checkParse(t, full+fill); e != api.ErrSize || at != 0 || !alike(c, api.Config{}) {
			t.Error(fill, e, at)
		}
	}
	// The size goes ahead of all lines.
	if _, e, at := Parse("x\n" + strings.Repeat("x", maxText)); e != api.ErrSize || at != 0 {
		t.Error(e, at)
	}
	if _, e, at := Parse(strings.Repeat("\n", maxText-1) + "x"); e != api.ErrLine || at != maxText-1 {
		t.Error(e, at)
	}
}

// TestP20_2_Parent: what a route leaves out is its parent's, whatever that has from its own.
func TestP20_2_Parent(t *testing.T) {
	text := `receiver a
route receiver a by x,y wait 1s interval 2s repeat 3s
route parent 0 receiver a match {m="1"} continue
route parent 1 receiver a by * wait 4s
route parent 2 receiver a
route parent 2 receiver a by z
route parent 4 receiver a interval 5s
route parent 0 receiver a repeat 6s
`
	c, e, _ := checkParse(t, text)
	want := []api.Route{
		{Parent: -1, By: []string{"x", "y"}, Wait: 1000, Interval: 2000, Repeat: 3000},
		{Parent: 0, By: []string{"x", "y"}, Wait: 1000, Interval: 2000, Repeat: 3000, Continue: true, Matchers: []api.Matcher{{Op: api.MEq, Name: "m", Value: "1"}}},
		{Parent: 1, All: true, Wait: 4000, Interval: 2000, Repeat: 3000},
		{Parent: 2, All: true, Wait: 4000, Interval: 2000, Repeat: 3000},
		{Parent: 2, By: []string{"z"}, Wait: 4000, Interval: 2000, Repeat: 3000},
		{Parent: 4, By: []string{"z"}, Wait: 4000, Interval: 5000, Repeat: 3000},
		{Parent: 0, By: []string{"x", "y"}, Wait: 1000, Interval: 2000, Repeat: 6000},
	}
	for i := range want {
		want[i].Receiver = "a"
	}
	if e != api.OK || !alike(c.Routes, want) {
		t.Errorf("%+v, %d", c.Routes, e)
	}
}

func TestP20_3_Print(t *testing.T) {
	for _, x := range []struct {
		c    api.Config
		want string
	}{
		{base(), "resolve 5m\nlookback 5m\nreceiver team\nroute receiver team wait 30s interval 5m repeat 4h\n"},
		{rich(), `resolve 1ms
lookback 34y45w19h53m47s776ms
receiver team
receiver A.b_c-9
receiver match
group g every 1m
alert "Down" for 5m keep 1s500ms labels {a="#}\"\\\n` + "\r" + `",severity="critical"} expr up == 0
alert "a#\"\\\n\t\x01é b" expr 1
record job:up labels {b="2"} expr sum by (job) (up{a="x"}) > 1
record :r expr time()
group none every 34y45w19h53m47s776ms
route receiver team by job, alertname wait 0s interval 1ms repeat 34y45w19h53m47s776ms
route parent 0 receiver A.b_c-9 match {a="#}\"\\\n",b!~"c|d"} by * wait 34y45w19h53m47s776ms interval 34y45w19h53m47s776ms repeat 1ms continue
route parent 1 receiver match by wait wait 1ms interval 1ms repeat 1ms
route parent 0 receiver team by continue, x wait 1ms interval 1ms repeat 1ms continue
inhibit source {severity="critical"} target {severity=~"warning|"} equal job, instance
inhibit source {a!="",a!=""} target {b=""}
`},
	} {
		s, e, at := Print(x.c)
		if s != x.want || e != api.OK || at != 0 {
			t.Errorf("%s\n%d, %d; want\n%s", s, e, at, x.want)
		}
		if model, _, _ := printModel(x.c); model != x.want {
			t.Errorf("the model's\n%s", model)
		}
	}
	if s, e, at := Print(api.Config{}); s != "" || e != api.ErrArg || at != 0 {
		t.Error(s, e, at)
	}
}

// TestP20_3_Size: a text of MaxText bytes, and one more.
func TestP20_3_Size(t *testing.T) {
	c := base()
	c.Groups = []api.Group{{Name: "g", Every: 1, Rules: []api.Rule{{Name: "a", Expr: long(10)}}}}
	s, _, _ := Print(c)
	c.Groups[0].Rules[0].Expr = long(maxText - len(s) + 10)
	s, e, at := Print(c)
	if len(s) != maxText || e != api.OK || at != 0 {
		t.Error(len(s), e, at)
	}
	if d, e, _ := Parse(s); e != api.OK || !Same(c, d) {
		t.Error(e)
	}
	c.Groups[0].Rules[0].Expr += "0"
	if s, e, at := Print(c); s != "" || e != api.ErrSize || at != 0 {
		t.Error(len(s), e, at)
	}
	// What is at fault goes ahead of the size.
	c.Inhibits = make([]api.Inhibit, 1)
	if s, e, at := Print(c); s != "" || e != api.ErrInhibit || at != 0 {
		t.Error(len(s), e, at)
	}
	// One that is far too long.
	c.Inhibits = nil
	for i := range 20 {
		c.Groups = append(c.Groups, api.Group{Name: fmt.Sprint("g", i), Every: 1, Rules: c.Groups[0].Rules})
	}
	if s, e, at := Print(c); s != "" || e != api.ErrSize || at != 0 {
		t.Error(len(s), e, at)
	}
}

// TestP20_5_Written: Parse(Print(c)) is c.
func TestP20_5_Written(t *testing.T) {
	s := newSource(205)
	n := 0
	for range 4000 {
		c := s.config()
		text, e, at := Print(c)
		if e != api.OK || at != 0 {
			t.Fatal(c, e, at)
		}
		d, e, at := checkParse(t, text)
		if e != api.OK || at != 0 {
			t.Fatal(text, e, at)
		}
		if written(c) {
			n++
			if !Same(c, d) || !alike(c, d) {
				t.Fatalf("%s\n%+v\n%+v", text, c, d)
			}
		}
	}
	if n < 1000 {
		t.Error("too few", n)
	}
	if d, e, _ := checkParse(t, "x"); e != api.ErrLine {
		t.Error(d)
	}
	// A route of no names under one that has some is read with its parent's.
	c := rich()
	c.Routes[3].By = nil
	text, _, _ := Print(c)
	d, e, _ := checkParse(t, text)
	if e != api.OK || Same(c, d) || !slices.Equal(d.Routes[3].By, c.Routes[0].By) {
		t.Error(d, e)
	}
}

// TestP20_6_Again: Print of what Parse reads is read as the same.
func TestP20_6_Again(t *testing.T) {
	s := newSource(206)
	for range 2000 {
		text, e, _ := Print(s.config())
		if e != api.OK {
			t.Fatal(e)
		}
		// Lines without some of their parts, in another order, are read as well.
		lines := strings.Split(strings.TrimSuffix(text, "\n"), "\n")
		for i, line := range lines {
			if strings.HasPrefix(line, "route") {
				lines[i] = strings.Split(line, " wait ")[0]
			}
		}
		c, e, _ := checkParse(t, strings.Join(lines, "\n"))
		if e != api.OK || !written(c) {
			continue
		}
		again, e, _ := Print(c)
		d, f, _ := Parse(again)
		if e != api.OK || f != api.OK || !Same(c, d) {
			t.Fatal(text, again, e, f)
		}
		if more, _, _ := Print(d); more != again {
			t.Fatal(again, more)
		}
	}
}

// blankAt answers where blanks stand in a line that are outside " and braces.
func blankAt(line string) []int {
	var out []int
	in, brace := false, false
	for i := 0; i < len(line); i++ {
		switch {
		case in && line[i] == '\\':
			i++
		case line[i] == '"':
			in = !in
		case !in && (line[i] == '{' || line[i] == '}'):
			brace = line[i] == '{'
		case !in && !brace && line[i] == ' ':
			out = append(out, i)
		}
	}
	return out
}

// TestP20_7_Remarks: remarks, empty lines and more blanks change nothing.
func TestP20_7_Remarks(t *testing.T) {
	s := newSource(207)
	blank := func() string { return s.pick(" ", "\t", "\r", "  ", " \t\r ") }
	for range 2000 {
		c := s.config()
		if !written(c) {
			continue
		}
		text, _, _ := Print(c)
		var lines []string
		for _, line := range strings.Split(strings.TrimSuffix(text, "\n"), "\n") {
			for range s.Intn(3) {
				lines = append(lines, s.pick("", " ", "\t\r", "#", "# receiver team", " #\"", "\r#\xff"))
			}
			head, expr, is := strings.Cut(line, " expr ")
			if !strings.HasPrefix(line, "alert") && !strings.HasPrefix(line, "record") {
				head, expr, is = line, "", false
			}
			if is {
				// The name of an alert may have the word, too.
				at := strings.LastIndex(line, " expr ")
				head, expr = line[:at], line[at+len(" expr "):]
			}
			places := blankAt(head)
			slices.Reverse(places)
			for _, at := range places {
				head = head[:at] + blank() + head[at+1:]
			}
			if is {
				head += blank() + "expr" + blank() + expr
			}
			if strings.Count(expr, `"`)%2 == 0 {
				head += s.pick("", " ", "# x", " # receiver \"", "\r", "#")
			}
			lines = append(lines, s.pick("", " ", "\t\r")+head)
		}
		other := strings.Join(lines, "\n")
		if d, e, at := checkParse(t, other); e != api.OK || at != 0 || !Same(c, d) {
			t.Fatalf("%s\n%d, %d\n%+v\n%+v", other, e, at, c, d)
		}
	}
}

// TestP20_2_Model holds Parse of texts with changed bytes against the forms.
func TestP20_2_Model(t *testing.T) {
	s := newSource(208)
	for range 6000 {
		text, e, _ := Print(s.config())
		if e != api.OK {
			t.Fatal(e)
		}
		b := []byte(text)
		for range 1 + s.Intn(3) {
			at := s.Intn(len(b))
			signs := " \t\r\n#\"\\{},*0a.=:"
			sign := signs[s.Intn(len(signs))]
			switch s.Intn(4) {
			case 0:
				b[at] = sign
			case 1:
				b = slices.Insert(b, at, sign)
			case 2:
				b = slices.Delete(b, at, at+1)
			default:
				lines := strings.Split(string(b), "\n")
				i, j := s.Intn(len(lines)), s.Intn(len(lines))
				lines[i], lines[j] = lines[j], lines[i]
				b = []byte(strings.Join(lines, "\n"))
			}
			if len(b) == 0 {
				b = []byte(" ")
			}
		}
		if checkParse(t, string(b)); t.Failed() {
			return
		}
	}
}

// TestConfig_Memory: lists of an answer share no memory, and none is kept.
func TestConfig_Memory(t *testing.T) {
	text := "receiver a\nroute receiver a by x,y\nroute parent 0 receiver a\nroute parent 1 receiver a\ninhibit source {a=\"1\"} target {a=\"1\"} equal x\n"
	for range 2 {
		c, e, _ := Parse(text)
		if e != api.OK {
			t.Fatal(e)
		}
		for i := range c.Routes {
			by := c.Routes[i].By
			if !slices.Equal(by, []string{"x", "y"}) {
				t.Fatal(i, c.Routes)
			}
			_ = append(by, "!")
			by[0], by[1] = "!", "!"
		}
		for _, v := range leaves(reflect.ValueOf(&c).Elem()) {
			if v.Kind() == reflect.String {
				v.SetString("!")
			}
		}
	}
	c := api.Config{Groups: rich().Groups}
	for range 2 {
		l := Kept(c, c)
		if !slices.Equal(l, []int{0, 1}) {
			t.Fatal(l)
		}
		l[0], l[1] = 7, 7
	}
}

// FuzzParse holds any text against the forms, and what is read against its own text.
func FuzzParse(f *testing.F) {
	f.Add("receiver team\ngroup g every 1m\nalert \"Down\" for 5m labels {severity=\"critical\"} expr up == 0\nroute receiver team by job")
	rich, _, _ := Print(rich())
	f.Add(rich)
	f.Add("receiver a # \"\n\nroute receiver a by * wait 0s\nroute parent 0 receiver a match {a=\"#\"} continue\ninhibit source {a=\"1\"} target {b!=\"\"} equal a , b\nresolve 1s\nlookback 2s")
	f.Fuzz(func(t *testing.T, s string) {
		c, e, _ := checkParse(t, s)
		if e != api.OK {
			return
		}
		text, e, _ := Print(c)
		if e == api.ErrSize {
			return
		}
		if d, f, at := Parse(text); e != api.OK || written(c) && (f != api.OK || at != 0 || !Same(c, d)) {
			t.Errorf("%q: %q, %d, %d", s, text, e, f)
		}
	})
}
