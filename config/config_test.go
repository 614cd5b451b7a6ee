package config

import (
	"fmt"
	"math"
	"reflect"
	"slices"
	"strings"
	"testing"

	"tocsin/api"
)

func TestExamples(t *testing.T) {
	text := "receiver team\ngroup g every 1m\nalert \"Down\" for 5m labels {severity=\"critical\"} expr up == 0\nroute receiver team by job"
	want := base()
	want.Groups = []api.Group{{Name: "g", Every: 60000, Rules: []api.Rule{{Name: "Down", Expr: "up == 0", For: 300000, Labels: []api.Label{{Name: "severity", Value: "critical"}}}}}}
	want.Routes[0].By = []string{"job"}
	c, e, at := checkParse(t, text)
	if e != api.OK || at != 0 || !alike(c, want) || c.Routes[0].Wait != 30000 || c.Routes[0].Interval != 300000 || c.Routes[0].Repeat != 14400000 {
		t.Error(c, e, at)
	}
	if c, e, at := Parse("receiver team\nreceiver team\n" + text[len("receiver team\n"):]); !alike(c, api.Config{}) || e != api.ErrReceiver || at != 1 {
		t.Error(c, e, at)
	}
	if c, e, at := Parse("receiver team\nalert \"Down\" expr up == 0\nroute receiver team"); !alike(c, api.Config{}) || e != api.ErrLine || at != 1 {
		t.Error(c, e, at)
	}
	if e, at := Right(api.Config{}); e != api.ErrArg || at != 0 {
		t.Error(e, at)
	}
	for _, expr := range []string{"1 +", "m[5m]"} {
		if _, e, at := Parse("receiver team\ngroup g every 1m\nalert \"Down\" expr " + expr + "\nroute receiver team"); e != api.ErrRule || at != 0 {
			t.Error(expr, e, at)
		}
	}
	if _, e, at := Parse("receiver team\nroute receiver nobody"); e != api.ErrRoute || at != 0 {
		t.Error(e, at)
	}
}

func TestP20_1_Name(t *testing.T) {
	for c := range 256 {
		b := byte(c)
		want := b >= 'a' && b <= 'z' || b >= 'A' && b <= 'Z' || b >= '0' && b <= '9' || b == '.' || b == '_' || b == '-'
		for _, s := range []string{string([]byte{b}), string([]byte{'a', b}), string([]byte{b, 'a'}), string([]byte{'a', b, 'a'})} {
			if Name(s) != want || isName(s) != want {
				t.Errorf("%q: %t", s, Name(s))
			}
		}
	}
	for s, want := range map[string]bool{"": false, strings.Repeat("n", 64): true, strings.Repeat("n", 65): false, strings.Repeat(".", 64): true, "é": false, "a b": false, "a\n": false, "a:b": false, "-": true, "\u0661": false} {
		if Name(s) != want {
			t.Errorf("%q: %t", s, Name(s))
		}
	}
}

// change is a configuration that is changed at one place, and what Right says of it.
type change struct {
	what string
	do   func(c *api.Config)
	e    api.Errno
	at   int
}

// checkChanges applies each change to the rich configuration.
func checkChanges(t *testing.T, l []change) {
	t.Helper()
	for _, x := range l {
		c := rich()
		x.do(&c)
		was := copyOf(c)
		e, at := Right(c)
		f, place := rightModel(c)
		if e != x.e || at != x.at || f != x.e || place != x.at {
			t.Errorf("%s: %d, %d; want %d, %d; the model's %d, %d", x.what, e, at, x.e, x.at, f, place)
		}
		if !alike(c, was) {
			t.Error("changed", x.what)
		}
		s, e, at := Print(c)
		if e != x.e || at != x.at || (s == "") != (e != api.OK) {
			t.Errorf("%s: Print: %q, %d, %d", x.what, s, e, at)
		}
	}
}

// long answers an expression of n bytes.
func long(n int) string {
	return "1 +" + strings.Repeat(" ", n-4) + "1"
}

func repeated(n int) []string {
	var l []string
	for i := range n {
		l = append(l, fmt.Sprint("n", i))
	}
	return l
}

func TestP20_1_Spans(t *testing.T) {
	set := func(resolve, lookback int64) func(*api.Config) {
		return func(c *api.Config) { c.Resolve, c.Lookback = resolve, lookback }
	}
	checkChanges(t, []change{
		{"as it is", func(*api.Config) {}, api.OK, 0},
		{"least", set(1, 1), api.OK, 0},
		{"most", set(maxSpan, maxSpan), api.OK, 0},
		{"resolve 0", set(0, 1), api.ErrArg, 0},
		{"lookback 0", set(1, 0), api.ErrArg, 0},
		{"resolve -1", set(-1, 1), api.ErrArg, 0},
		{"lookback -1", set(1, -1), api.ErrArg, 0},
		{"resolve too long", set(maxSpan+1, 1), api.ErrArg, 0},
		{"lookback too long", set(1, maxSpan+1), api.ErrArg, 0},
		{"greatest", set(math.MaxInt64, math.MinInt64), api.ErrArg, 0},
		{"ahead of receivers", func(c *api.Config) { c.Resolve = 0; c.Receivers = nil }, api.ErrArg, 0},
	})
}

func TestP20_1_Receivers(t *testing.T) {
	set := func(names ...string) func(*api.Config) {
		return func(c *api.Config) { c.Receivers = names }
	}
	checkChanges(t, []change{
		{"none", set(), api.ErrReceiver, 0},
		{"32", set(append(repeated(29), rich().Receivers...)...), api.OK, 0},
		{"33", set(append(repeated(30), rich().Receivers...)...), api.ErrReceiver, 32},
		{"33, the first one at fault", set(append(repeated(30), "", "", "")...), api.ErrReceiver, 32},
		{"34", set(append(repeated(31), rich().Receivers...)...), api.ErrReceiver, 32},
		{"empty", set("team", ""), api.ErrReceiver, 1},
		{"no name", set("team", "A.b_c-9", "match", "a b", ""), api.ErrReceiver, 3},
		{"64", set("team", "A.b_c-9", "match", strings.Repeat("n", 64)), api.OK, 0},
		{"65", set("team", "A.b_c-9", "match", strings.Repeat("n", 65)), api.ErrReceiver, 3},
		{"twice", set("team", "A.b_c-9", "team", "match", "match"), api.ErrReceiver, 2},
		{"a name ahead of twice", set("é", "team", "team"), api.ErrReceiver, 0},
		{"ahead of groups", func(c *api.Config) { c.Receivers[1] = "team"; c.Groups[0].Name = "" }, api.ErrReceiver, 1},
	})
}

func TestP20_1_Groups(t *testing.T) {
	count := func(n int) func(*api.Config) {
		return func(c *api.Config) {
			c.Groups = nil
			for _, name := range repeated(n) {
				c.Groups = append(c.Groups, api.Group{Name: name, Every: 1})
			}
		}
	}
	first := func(do func(g *api.Group)) func(*api.Config) {
		return func(c *api.Config) { do(&c.Groups[1]) }
	}
	many := func(n int) func(*api.Group) {
		return func(g *api.Group) {
			g.Rules = nil
			for range n {
				g.Rules = append(g.Rules, api.Rule{Name: "a", Expr: "1"})
			}
		}
	}
	checkChanges(t, []change{
		{"none", count(0), api.OK, 0},
		{"32", count(32), api.OK, 0},
		{"33", count(33), api.ErrGroup, 32},
		{"34", count(34), api.ErrGroup, 32},
		{"33, the first one at fault", func(c *api.Config) { count(33)(c); c.Groups[0] = api.Group{} }, api.ErrGroup, 32},
		{"33, the first rule at fault", func(c *api.Config) { count(33)(c); c.Groups[0].Rules = make([]api.Rule, 1) }, api.ErrGroup, 32},
		{"no name", first(func(g *api.Group) { g.Name = "" }), api.ErrGroup, 1},
		{"a name that is none", first(func(g *api.Group) { g.Name = "a b" }), api.ErrGroup, 1},
		{"64", first(func(g *api.Group) { g.Name = strings.Repeat("n", 64) }), api.OK, 0},
		{"65", first(func(g *api.Group) { g.Name = strings.Repeat("n", 65) }), api.ErrGroup, 1},
		{"twice", first(func(g *api.Group) { g.Name = "g" }), api.ErrGroup, 1},
		{"a receiver's", first(func(g *api.Group) { g.Name = "team" }), api.OK, 0},
		{"every 0", first(func(g *api.Group) { g.Every = 0 }), api.ErrGroup, 1},
		{"every -1", first(func(g *api.Group) { g.Every = -1 }), api.ErrGroup, 1},
		{"every 1", first(func(g *api.Group) { g.Every = 1 }), api.OK, 0},
		{"every too long", first(func(g *api.Group) { g.Every = maxSpan + 1 }), api.ErrGroup, 1},
		{"64 rules", first(many(64)), api.OK, 0},
		{"65 rules", first(many(65)), api.ErrGroup, 1},
		{"65 rules, one at fault", first(func(g *api.Group) { many(65)(g); g.Rules[0] = api.Rule{} }), api.ErrGroup, 1},
		{"no rules", first(many(0)), api.OK, 0},
		{"a group ahead of its rules", func(c *api.Config) { c.Groups[0].Every = 0; c.Groups[0].Rules[0].Name = "" }, api.ErrGroup, 0},
		{"a rule ahead of the next group", func(c *api.Config) { c.Groups[0].Rules[3].Name = ""; c.Groups[1].Name = "" }, api.ErrRule, 0},
		{"a group ahead of the next one's rule", func(c *api.Config) { c.Groups[0].Name = ""; c.Groups[1].Rules = make([]api.Rule, 1) }, api.ErrGroup, 0},
		{"a rule of the second", func(c *api.Config) { c.Groups[1].Rules = []api.Rule{c.Groups[0].Rules[0], {}} }, api.ErrRule, 1},
		{"a rule ahead of routes", func(c *api.Config) { c.Groups[1].Rules = make([]api.Rule, 1); c.Routes = nil }, api.ErrRule, 1},
	})
}

func TestP20_1_Rules(t *testing.T) {
	set := func(do func(r *api.Rule)) func(*api.Config) {
		return func(c *api.Config) { do(&c.Groups[0].Rules[0]) }
	}
	l := []change{
		{"no name", set(func(r *api.Rule) { r.Name = "" }), api.ErrRule, 0},
		{"for -1", set(func(r *api.Rule) { r.For = -1 }), api.ErrRule, 0},
		{"keep -1", set(func(r *api.Rule) { r.Keep = -1 }), api.ErrRule, 0},
		{"for 0", set(func(r *api.Rule) { r.For = 0 }), api.OK, 0},
		{"for most", set(func(r *api.Rule) { r.For = maxSpan; r.Keep = maxSpan }), api.OK, 0},
		{"for beyond", set(func(r *api.Rule) { r.For = maxSpan + 1 }), api.ErrRule, 0},
		{"records, with for", set(func(r *api.Rule) { r.Record = true }), api.ErrRule, 0},
		{"records", set(func(r *api.Rule) { r.Record, r.For, r.Keep = true, 0, 0 }), api.OK, 0},
		{"labels", set(func(r *api.Rule) { r.Labels = []api.Label{{Name: "alertname", Value: "x"}} }), api.ErrRule, 0},
		{"labels", set(func(r *api.Rule) { r.Labels = []api.Label{{Name: "a"}} }), api.ErrRule, 0},
	}
	for _, expr := range []string{"1", "up", "-up", "(1)", "time()", "up offset 5m", "sum(up)", "rate(up[5m])", "vector(1)", "1 > bool 2", "a\t+\r b", "up{a='\"'}", "up{a=\"}\"}"} {
		l = append(l, change{expr, set(func(r *api.Rule) { r.Expr = expr }), api.OK, 0})
	}
	for _, expr := range []string{"", " ", "1 +", "up[5m]", "(up[5m])", "\"a\"", "'a'", "1 > 2", "foo(1)", "{a=\"\"}", "up{a=~\"(\"}", "sum(1)", " up", "up ", "\tup", "up\t", "\rup", "up\r", "up\n", "\nup", "a +\nb", "up # up", "#", "up{a=\"#\"}", "up#", "\xff", "up{a=\"\xff\"}", long(65537)} {
		l = append(l, change{expr, set(func(r *api.Rule) { r.Expr = expr }), api.ErrRule, 0})
	}
	checkChanges(t, l)
	// The longest expression is right, though its line would be too long.
	c := base()
	c.Groups = []api.Group{{Name: "g", Every: 1, Rules: []api.Rule{{Name: "a", Expr: long(65536)}}}}
	if e, at := Right(c); e != api.OK || at != 0 {
		t.Error(e, at)
	}
	if s, e, at := Print(c); s != "" || e != api.ErrSize || at != 0 {
		t.Error(len(s), e, at)
	}
}

func TestP20_1_Routes(t *testing.T) {
	count := func(n int) func(*api.Config) {
		return func(c *api.Config) {
			for len(c.Routes) < n {
				c.Routes = append(c.Routes, c.Routes[3])
			}
		}
	}
	root := func(do func(r *api.Route)) func(*api.Config) { return func(c *api.Config) { do(&c.Routes[0]) } }
	third := func(do func(r *api.Route)) func(*api.Config) { return func(c *api.Config) { do(&c.Routes[2]) } }
	one := []api.Matcher{{Op: api.MEq, Name: "a", Value: "1"}}
	l := []change{
		{"none", func(c *api.Config) { c.Routes = nil }, api.ErrRoute, 0},
		{"64", count(64), api.OK, 0},
		{"65", count(65), api.ErrRoute, 64},
		{"66", count(66), api.ErrRoute, 64},
		{"65, the first one at fault", func(c *api.Config) { count(65)(c); c.Routes[0].Parent = 0 }, api.ErrRoute, 64},
		{"the first one's parent", root(func(r *api.Route) { r.Parent = 0 }), api.ErrRoute, 0},
		{"the first one's parent", root(func(r *api.Route) { r.Parent = -2 }), api.ErrRoute, 0},
		{"the first one's matchers", root(func(r *api.Route) { r.Matchers = one }), api.ErrRoute, 0},
		{"the first one's matchers of none", root(func(r *api.Route) { r.Matchers = []api.Matcher{} }), api.OK, 0},
		{"the first one goes on", root(func(r *api.Route) { r.Continue = true }), api.ErrRoute, 0},
		{"parent -1", third(func(r *api.Route) { r.Parent = -1 }), api.ErrRoute, 2},
		{"parent 1", third(func(r *api.Route) { r.Parent = 1 }), api.OK, 0},
		{"parent itself", third(func(r *api.Route) { r.Parent = 2 }), api.ErrRoute, 2},
		{"parent behind", third(func(r *api.Route) { r.Parent = 3 }), api.ErrRoute, 2},
		{"parent nowhere", third(func(r *api.Route) { r.Parent = math.MaxInt }), api.ErrRoute, 2},
		{"parent nowhere", third(func(r *api.Route) { r.Parent = math.MinInt }), api.ErrRoute, 2},
		{"nobody", third(func(r *api.Route) { r.Receiver = "nobody" }), api.ErrRoute, 2},
		{"no receiver", third(func(r *api.Route) { r.Receiver = "" }), api.ErrRoute, 2},
		{"16 matchers", third(func(r *api.Route) { r.Matchers = slices.Repeat(one, 16) }), api.OK, 0},
		{"17 matchers", third(func(r *api.Route) { r.Matchers = slices.Repeat(one, 17) }), api.ErrRoute, 2},
		{"a wrong matcher", third(func(r *api.Route) { r.Matchers = append(slices.Clone(one), api.Matcher{}) }), api.ErrRoute, 2},
		{"no expression", third(func(r *api.Route) { r.Matchers = []api.Matcher{{Op: api.MRe, Name: "a", Value: "("}} }), api.ErrRoute, 2},
		{"by 16", third(func(r *api.Route) { r.By = repeated(16) }), api.OK, 0},
		{"by 17", third(func(r *api.Route) { r.By = repeated(17) }), api.ErrRoute, 2},
		{"by twice", third(func(r *api.Route) { r.By = []string{"a", "b", "a"} }), api.ErrRoute, 2},
		{"by a name of 64", third(func(r *api.Route) { r.By = []string{strings.Repeat("n", 64)} }), api.OK, 0},
		{"by a name of 65", third(func(r *api.Route) { r.By = []string{strings.Repeat("n", 65)} }), api.ErrRoute, 2},
		{"by no name", third(func(r *api.Route) { r.By = []string{"a", ""} }), api.ErrRoute, 2},
		{"by 9", third(func(r *api.Route) { r.By = []string{"9"} }), api.ErrRoute, 2},
		{"by *", third(func(r *api.Route) { r.By = []string{"*"} }), api.ErrRoute, 2},
		{"by none and all", third(func(r *api.Route) { r.By = []string{}; r.All = true }), api.OK, 0},
		{"by some and all", third(func(r *api.Route) { r.All = true }), api.ErrRoute, 2},
		{"the first one by some and all", root(func(r *api.Route) { r.All = true }), api.ErrRoute, 0},
		{"ahead of inhibitions", func(c *api.Config) { c.Routes[3].Wait = -1; c.Inhibits[0].Source = nil }, api.ErrRoute, 3},
		{"the first of two", func(c *api.Config) { c.Routes[3].Wait = -1; c.Routes[1].Receiver = "" }, api.ErrRoute, 1},
	}
	for _, x := range []struct {
		n                      int64
		wait, interval, repeat api.Errno
	}{{-1, api.ErrRoute, api.ErrRoute, api.ErrRoute}, {0, api.OK, api.ErrRoute, api.ErrRoute}, {1, api.OK, api.OK, api.OK}, {maxSpan, api.OK, api.OK, api.OK}, {maxSpan + 1, api.ErrRoute, api.ErrRoute, api.ErrRoute}, {math.MinInt64, api.ErrRoute, api.ErrRoute, api.ErrRoute}} {
		at := func(e api.Errno) int { return map[api.Errno]int{api.ErrRoute: 2}[e] }
		l = append(l,
			change{fmt.Sprint("wait ", x.n), third(func(r *api.Route) { r.Wait = x.n }), x.wait, at(x.wait)},
			change{fmt.Sprint("interval ", x.n), third(func(r *api.Route) { r.Interval = x.n }), x.interval, at(x.interval)},
			change{fmt.Sprint("repeat ", x.n), third(func(r *api.Route) { r.Repeat = x.n }), x.repeat, at(x.repeat)})
	}
	checkChanges(t, l)
}

func TestP20_1_Inhibits(t *testing.T) {
	count := func(n int) func(*api.Config) {
		return func(c *api.Config) {
			c.Inhibits = slices.Repeat(rich().Inhibits[:1], n)
		}
	}
	second := func(do func(x *api.Inhibit)) func(*api.Config) {
		return func(c *api.Config) { do(&c.Inhibits[1]) }
	}
	one := []api.Matcher{{Op: api.MEq, Name: "a", Value: "1"}}
	checkChanges(t, []change{
		{"none", count(0), api.OK, 0},
		{"32", count(32), api.OK, 0},
		{"33", count(33), api.ErrInhibit, 32},
		{"34", count(34), api.ErrInhibit, 32},
		{"33, the first one at fault", func(c *api.Config) { count(33)(c); c.Inhibits[0].Target = nil }, api.ErrInhibit, 32},
		{"no source", second(func(x *api.Inhibit) { x.Source = nil }), api.ErrInhibit, 1},
		{"no target", second(func(x *api.Inhibit) { x.Target = []api.Matcher{} }), api.ErrInhibit, 1},
		{"16 of each", second(func(x *api.Inhibit) { x.Source, x.Target = slices.Repeat(one, 16), slices.Repeat(one, 16) }), api.OK, 0},
		{"17 sources", second(func(x *api.Inhibit) { x.Source = slices.Repeat(one, 17) }), api.ErrInhibit, 1},
		{"17 targets", second(func(x *api.Inhibit) { x.Target = slices.Repeat(one, 17) }), api.ErrInhibit, 1},
		{"a wrong source", second(func(x *api.Inhibit) { x.Source = []api.Matcher{{Op: 5, Name: "a"}} }), api.ErrInhibit, 1},
		{"a wrong target", second(func(x *api.Inhibit) { x.Target = []api.Matcher{one[0], {Op: api.MEq, Name: "9"}} }), api.ErrInhibit, 1},
		{"equal 16", second(func(x *api.Inhibit) { x.Equal = repeated(16) }), api.OK, 0},
		{"equal 17", second(func(x *api.Inhibit) { x.Equal = repeated(17) }), api.ErrInhibit, 1},
		{"equal twice", second(func(x *api.Inhibit) { x.Equal = []string{"a", "a"} }), api.ErrInhibit, 1},
		{"equal no name", second(func(x *api.Inhibit) { x.Equal = []string{"a:b"} }), api.ErrInhibit, 1},
		{"equal empty", second(func(x *api.Inhibit) { x.Equal = []string{""} }), api.ErrInhibit, 1},
		{"the first of two", func(c *api.Config) { c.Inhibits[1].Source = nil; c.Inhibits[0].Equal = []string{""} }, api.ErrInhibit, 0},
	})
}

// breakOne answers a configuration with something changed at random, right or not.
func (s source) breakOne(c api.Config) api.Config {
	l := leaves(reflect.ValueOf(&c).Elem())
	s.vary(l[s.Intn(len(l))])
	return c
}

// leaves answers all fields, and lists, of a value that can be set.
func leaves(v reflect.Value) []reflect.Value {
	var out []reflect.Value
	switch v.Kind() {
	case reflect.Struct:
		for i := range v.NumField() {
			out = append(out, leaves(v.Field(i))...)
		}
	case reflect.Slice:
		for i := range v.Len() {
			out = append(out, leaves(v.Index(i))...)
		}
		out = append(out, v)
	default:
		out = append(out, v)
	}
	return out
}

// vary puts another value into a field, or makes a list longer or shorter.
func (s source) vary(v reflect.Value) {
	switch v.Kind() {
	case reflect.Bool:
		v.SetBool(!v.Bool())
	case reflect.Int, reflect.Int64:
		l := []int64{-2, -1, 0, 1, 2, 3, maxSpan, maxSpan + 1, v.Int() + 1, v.Int() - 1}
		v.SetInt(l[s.Intn(len(l))])
	case reflect.String:
		v.SetString(s.pick("", "a", "a b", v.String()+"x", v.String()+"\xff", "__name__", "alertname", "team", "9", "#", "m[5m]", strings.Repeat("n", 65)))
	case reflect.Slice:
		if v.Len() > 0 && s.Intn(2) == 0 {
			v.Set(v.Slice(0, v.Len()-1))
			return
		}
		more := reflect.New(v.Type().Elem()).Elem()
		if v.Len() > 0 && s.Intn(2) == 0 {
			more = deepCopy(v.Index(0))
		}
		for range []int{1, 1, 17, 33, 65}[s.Intn(5)] {
			v.Set(reflect.Append(v, more))
		}
	}
}

// TestP20_1_Model holds Right, Print and Same against the words, of configurations that are right, and of such as are not.
func TestP20_1_Model(t *testing.T) {
	s := newSource(201)
	for range 4000 {
		c := s.config()
		for range s.Intn(3) {
			c = s.breakOne(c)
		}
		was := copyOf(c)
		e, at := Right(c)
		if f, place := rightModel(c); e != f || at != place {
			t.Fatalf("Right(%+v) = %d, %d; want %d, %d", c, e, at, f, place)
		}
		text, e, at := Print(c)
		if want, f, place := printModel(c); text != want || e != f || at != place {
			t.Fatalf("Print(%+v) = %q, %d, %d; want %q, %d, %d", c, text, e, at, want, f, place)
		}
		if !alike(c, was) {
			t.Fatal("changed", c, was)
		}
	}
}

func TestP20_4_Same(t *testing.T) {
	empty := api.Config{Groups: []api.Group{}, Receivers: []string{}, Routes: []api.Route{}, Inhibits: []api.Inhibit{}}
	if !Same(api.Config{}, empty) || !Same(empty, api.Config{}) || !Same(rich(), rich()) || !Same(rich(), copyOf(rich())) || Same(rich(), empty) || Same(empty, rich()) {
		t.Error("Same")
	}
	// Each field, and the length of each list, is looked at.
	n := len(leaves(reflect.ValueOf(rich())))
	for i := range n {
		c := copyOf(rich())
		v := leaves(reflect.ValueOf(&c).Elem())[i]
		switch v.Kind() {
		case reflect.Bool:
			v.SetBool(!v.Bool())
		case reflect.Int, reflect.Int64:
			v.SetInt(v.Int() + 1)
		case reflect.String:
			v.SetString(v.String() + "x")
		case reflect.Slice:
			v.Set(reflect.Append(v, reflect.New(v.Type().Elem()).Elem()))
		}
		if Same(c, rich()) || Same(rich(), c) {
			t.Errorf("%+v is the same", c)
		}
		if v := leaves(reflect.ValueOf(&c).Elem())[i]; v.Kind() == reflect.Slice && v.Len() > 1 {
			v.Set(v.Slice(0, v.Len()-2))
			if Same(c, rich()) || Same(rich(), c) {
				t.Errorf("%+v is the same", c)
			}
		}
	}
	// So is the order.
	c := rich()
	slices.Reverse(c.Receivers)
	d := rich()
	slices.Reverse(d.Groups)
	f := rich()
	slices.Reverse(f.Inhibits)
	for _, x := range []api.Config{c, d, f} {
		if Same(x, rich()) {
			t.Error(x)
		}
	}
}

func TestP20_4_Kept(t *testing.T) {
	groups := []api.Group{
		{Name: "a", Every: 1, Rules: []api.Rule{{Name: "x", Expr: "1", For: 1, Keep: 2, Labels: []api.Label{{Name: "l", Value: "v"}}}, {Record: true, Name: "y", Expr: "2"}}},
		{Name: "b", Every: 2},
		{Name: "c", Every: 1, Rules: []api.Rule{{Name: "x", Expr: "1"}}},
	}
	with := func(l ...api.Group) api.Config {
		return copyOf(api.Config{Groups: l})
	}
	for _, x := range []struct {
		old, now api.Config
		want     []int
	}{
		{with(), with(), nil},
		{with(groups...), with(), nil},
		{with(), with(groups...), nil},
		{with(groups...), with(groups...), []int{0, 1, 2}},
		{with(groups...), with(groups[2], groups[0], groups[1]), []int{0, 1, 2}},
		{with(groups...), with(groups[1]), []int{0}},
		{with(groups[1]), with(groups...), []int{1}},
		{with(groups[2], groups[0]), with(groups...), []int{0, 2}},
		{with(groups[1]), with(groups[1], groups[0], groups[1]), []int{0, 2}},
		{with(groups[1], groups[1]), with(groups[1]), []int{0}},
	} {
		if got := Kept(x.old, x.now); !slices.Equal(got, x.want) {
			t.Error(x, got)
		}
	}
	// All other fields of the configurations are of no matter.
	if got := Kept(rich(), api.Config{Groups: rich().Groups}); !slices.Equal(got, []int{0, 1}) {
		t.Error(got)
	}
	// Each field of a group counts.
	old := with(groups[0])
	for i := range leaves(reflect.ValueOf(old.Groups[0])) {
		now := copyOf(old)
		v := leaves(reflect.ValueOf(&now.Groups[0]).Elem())[i]
		switch v.Kind() {
		case reflect.Bool:
			v.SetBool(!v.Bool())
		case reflect.Int64:
			v.SetInt(v.Int() + 1)
		case reflect.String:
			v.SetString(v.String() + "x")
		case reflect.Slice:
			v.Set(reflect.Append(v, reflect.New(v.Type().Elem()).Elem()))
		}
		if got := Kept(old, now); len(got) != 0 {
			t.Errorf("%+v is kept", now)
		}
		if got := Kept(now, old); len(got) != 0 {
			t.Errorf("%+v is kept", now)
		}
	}
	swapped := copyOf(old)
	slices.Reverse(swapped.Groups[0].Rules)
	if got := Kept(old, swapped); len(got) != 0 {
		t.Error(got)
	}
}

// TestP20_4_Model: Same of random configurations, and Kept of their groups, shuffled and changed.
func TestP20_4_Model(t *testing.T) {
	s := newSource(204)
	for range 2000 {
		a := s.config()
		b := copyOf(a)
		s.Shuffle(len(b.Groups), func(i, j int) { b.Groups[i], b.Groups[j] = b.Groups[j], b.Groups[i] })
		if s.Intn(2) == 0 {
			b = s.breakOne(b)
		}
		wasA, wasB := copyOf(a), copyOf(b)
		if Same(a, b) != alike(a, b) || Same(b, a) != alike(a, b) {
			t.Fatal(a, b)
		}
		var want []int
		for i, g := range b.Groups {
			if slices.ContainsFunc(a.Groups, func(x api.Group) bool { return alike(x, g) }) {
				want = append(want, i)
			}
		}
		if got := Kept(a, b); !slices.Equal(got, want) {
			t.Fatal(a, b, got, want)
		}
		if !alike(a, wasA) || !alike(b, wasB) {
			t.Fatal("changed")
		}
	}
}
