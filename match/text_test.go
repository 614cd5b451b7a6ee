package match

import (
	"math/rand"
	"slices"
	"strings"
	"testing"

	"tocsin/api"
	"tocsin/labels"
)

func TestP6_4_Print(t *testing.T) {
	for _, c := range []struct {
		l    []api.Matcher
		want string
	}{
		{nil, "{}"},
		{[]api.Matcher{}, "{}"},
		{[]api.Matcher{eq("a", "1")}, `{a="1"}`},
		{[]api.Matcher{ne("a", "")}, `{a!=""}`},
		{[]api.Matcher{re("a", "x.*")}, `{a=~"x.*"}`},
		{[]api.Matcher{nre("a", "b|c")}, `{a!~"b|c"}`},
		{[]api.Matcher{re("job", "a|b"), ne("x", "")}, `{job=~"a|b",x!=""}`},
		{[]api.Matcher{eq("b", "1"), eq("a", "2"), ne("b", "1"), eq("b", "1")}, `{b="1",a="2",b!="1",b="1"}`},
		{[]api.Matcher{eq("__name__", "up"), eq("a", "1")}, `{__name__="up",a="1"}`},
		{[]api.Matcher{eq("a", "\\\"\n"), re("b", "\\\\n\\n")}, `{a="\\\"\n",b=~"\\\\n\\n"}`},
		{[]api.Matcher{eq("a", "\r\t\x00é,}")}, "{a=\"\r\t\x00é,}\"}"},
	} {
		if s, e, at := Print(c.l); s != c.want || e != api.OK || at != 0 {
			t.Errorf("Print(%+v): %s, %d, %d, not %s", c.l, s, e, at, c.want)
		}
	}
	for _, c := range wrongOnes() {
		if s, e, at := Print([]api.Matcher{eq("a", "1"), c.m, {}}); s != "" || e != c.e || at != 1 {
			t.Errorf("Print with %+v: %q, %d, %d, not %d", c.m, s, e, at, c.e)
		}
	}
	if s, e, at := Print(make([]api.Matcher, 17)); s != "" || e != api.ErrFull || at != 0 {
		t.Error("too many", s, e, at)
	}
}

func TestP6_8_ParseOfPrint(t *testing.T) {
	lists := [][]api.Matcher{nil, rightOnes()[:16], slices.Repeat([]api.Matcher{re("a", ".*")}, 16)}
	for _, m := range rightOnes() {
		lists = append(lists, []api.Matcher{m}, []api.Matcher{m, eq("b", "\\\""), m})
	}
	r := rand.New(rand.NewSource(68))
	for range 3000 {
		lists = append(lists, anyMatchers(r, 16))
	}
	for _, l := range lists {
		s, e, _ := Print(l)
		if e != api.OK {
			continue
		}
		if again, e, at := Parse(s); !slices.Equal(again, l) || e != api.OK || at != 0 {
			t.Errorf("Parse(%s): %+v, %d, %d, not %+v", s, again, e, at, l)
		}
	}
}

func TestP6_4_ParseReads(t *testing.T) {
	for s, want := range map[string][]api.Matcher{
		`{}`:                                  nil,
		" {\t} ":                              nil,
		`{a="1"}`:                             {eq("a", "1")},
		`{a!="1"}`:                            {ne("a", "1")},
		`{a=~"1"}`:                            {re("a", "1")},
		`{a!~"1"}`:                            {nre("a", "1")},
		`{a="1",}`:                            {eq("a", "1")},
		"\t{ a\t!~ \"1\" ,\tb =~\t\"2\" , } ": {nre("a", "1"), re("b", "2")},
		`{b="1",a="2",b="1",b!="3"}`:          {eq("b", "1"), eq("a", "2"), eq("b", "1"), ne("b", "3")},
		`{a="",b=~"",c!~"",d!=""}`:            {eq("a", ""), re("b", ""), nre("c", ""), ne("d", "")},
		`{__name__="up"}`:                     {eq("__name__", "up")},
		`{a="\\\"\n",b=~"\\."}`:               {eq("a", "\\\"\n"), re("b", "\\.")},
		"{a=\"x\ny\t\"}":                      {eq("a", "x\ny\t")},
		`{a=" , } { = ~ ! "}`:                 {eq("a", " , } { = ~ ! ")},
		`{a="("}`:                             {eq("a", "(")},
		`{` + times("a", 64) + `="1"}`:        {eq(times("a", 64), "1")},
		`{a="` + times("v", 256) + `"}`:       {eq("a", times("v", 256))},
		`{a=~"` + times(`\n`, 256) + `"}`:     {re("a", times("\n", 256))},
		`{a="1"` + times(" ", 65536-7) + "}":  {eq("a", "1")},
		"{" + times(`a="1",`, 16) + "}":       slices.Repeat([]api.Matcher{eq("a", "1")}, 16),
	} {
		if l, e, at := Parse(s); !slices.Equal(l, want) || e != api.OK || at != 0 {
			t.Errorf("Parse(%.80q): %+v, %d, %d, not %+v", s, l, e, at, want)
		}
	}
}

func TestP6_4_ParseRefuses(t *testing.T) {
	for _, c := range []struct {
		s  string
		e  api.Errno
		at int
	}{
		// Too long: told ahead of all else.
		{times(" ", 65537), api.ErrSize, 0},
		{`{a="1"` + times(" ", 65536-6) + "}", api.ErrSize, 0},
		{times("}", 65537), api.ErrSize, 0},
		// It ends too early.
		{"", api.ErrForm, 0}, {" \t", api.ErrForm, 2}, {"{", api.ErrForm, 1}, {"{ ", api.ErrForm, 2}, {"{a", api.ErrForm, 2}, {"{a ", api.ErrForm, 3}, {"{a=", api.ErrForm, 3}, {"{a!", api.ErrForm, 3}, {"{a=~", api.ErrForm, 4}, {"{a!~ ", api.ErrForm, 5}, {"{a!=", api.ErrForm, 4},
		{`{a="`, api.ErrForm, 4}, {`{a="1`, api.ErrForm, 5}, {`{a="\`, api.ErrForm, 5}, {`{a="1\"`, api.ErrForm, 7}, {`{a="1"`, api.ErrForm, 6}, {`{a="1",`, api.ErrForm, 7}, {`{a="1", `, api.ErrForm, 8}, {`{a="1",b`, api.ErrForm, 8},
		{times(" ", 65536), api.ErrForm, 65536},
		// No name ahead, nothing behind.
		{"up", api.ErrForm, 0}, {`up{a="1"}`, api.ErrForm, 0}, {" up{}", api.ErrForm, 1}, {"}", api.ErrForm, 0}, {`a="1"`, api.ErrForm, 0}, {`"a"`, api.ErrForm, 0}, {"\n{}", api.ErrForm, 0}, {"é{}", api.ErrForm, 0},
		{"{}{}", api.ErrForm, 2}, {"{} x", api.ErrForm, 3}, {"{}}", api.ErrForm, 2}, {`{a="1"},`, api.ErrForm, 7}, {"{}\n", api.ErrForm, 2}, {"{}\xff", api.ErrForm, 2},
		// Commas and braces.
		{"{,}", api.ErrForm, 1}, {"{ ,", api.ErrForm, 2}, {`{a="1",,}`, api.ErrForm, 7}, {`{a="1" , ,}`, api.ErrForm, 9}, {`{,a="1"}`, api.ErrForm, 1}, {`{a="1" b="2"}`, api.ErrForm, 7}, {`{a="1"b="2"}`, api.ErrForm, 6}, {`{a="1";}`, api.ErrForm, 6}, {"{{", api.ErrForm, 1}, {`{a="1"]`, api.ErrForm, 6}, {`{a="1"{`, api.ErrForm, 6},
		// Names: one that is none is told where it begins.
		{`{1a="1"}`, api.ErrForm, 1}, {`{ 9`, api.ErrForm, 2}, {`{="1"}`, api.ErrForm, 1}, {`{"a"="1"}`, api.ErrForm, 1}, {`{:a="1"}`, api.ErrForm, 1}, {`{a="1",  2b="1"}`, api.ErrForm, 9}, {`{ ` + times("a", 65) + `="1"}`, api.ErrForm, 2}, {`{ ` + times("a", 65), api.ErrForm, 2}, {`{é="1"}`, api.ErrForm, 1},
		{`{a:b="1"}`, api.ErrForm, 2}, {`{a b="1"}`, api.ErrForm, 3}, {`{a-b="1"}`, api.ErrForm, 2}, {`{aé="1"}`, api.ErrForm, 2}, {`{a}`, api.ErrForm, 2}, {`{a,}`, api.ErrForm, 2},
		// Operators, whose two signs stand together.
		{`{a=="1"}`, api.ErrForm, 3}, {`{a=!"1"}`, api.ErrForm, 3}, {`{a= ~"1"}`, api.ErrForm, 4}, {`{a=~~"1"}`, api.ErrForm, 4}, {`{a=~="1"}`, api.ErrForm, 4}, {`{a!"1"}`, api.ErrForm, 3}, {`{a!!="1"}`, api.ErrForm, 3}, {`{a! ="1"}`, api.ErrForm, 3}, {`{a!=="1"}`, api.ErrForm, 4}, {`{a!=~"1"}`, api.ErrForm, 4}, {`{a!~="1"}`, api.ErrForm, 4}, {`{a~"1"}`, api.ErrForm, 2}, {`{a ~"1"}`, api.ErrForm, 3}, {`{a<"1"}`, api.ErrForm, 2}, {`{a"1"}`, api.ErrForm, 2}, {"{a\n=\"1\"}", api.ErrForm, 2},
		// Values.
		{`{a=1}`, api.ErrForm, 3}, {`{a='1'}`, api.ErrForm, 3}, {`{a=}`, api.ErrForm, 3}, {`{a=~,`, api.ErrForm, 4}, {`{a=b}`, api.ErrForm, 3},
		{`{a="\x"}`, api.ErrForm, 4}, {`{a="12\t"}`, api.ErrForm, 6}, {`{a=~"\d"}`, api.ErrForm, 5}, {"{a=\"1\\\n\"}", api.ErrForm, 5}, {`{a="\\\N"}`, api.ErrForm, 6}, {`{a="\n\'"}`, api.ErrForm, 6}, {"{a=\"\\\xff", api.ErrForm, 4},
		// The form goes ahead of what is not right.
		{"{a=\"\xff\"", api.ErrForm, 6}, {`{a=~"("`, api.ErrForm, 7}, {"{" + times(`a="1",`, 21), api.ErrForm, 127},
		{"{" + times(`a="1",`, 17) + "}", api.ErrFull, 0},
		{"{" + times("a=\"\xff\",", 17) + "}", api.ErrFull, 0},
		{"{" + times(`a="1",`, 5000) + "}", api.ErrFull, 0},
		{"{a=\"\xff\"}", api.ErrUtf, 0},
		{"{b=\"1\",a=~\"\xff\"}", api.ErrUtf, 1},
		{`{b="1",c="2",a!="` + times("v", 257) + `"}`, api.ErrSize, 2},
		{`{a=~"("}`, api.ErrRegex, 0},
		{`{a="(",b!~"a{3,2}",c=~"("}`, api.ErrRegex, 1},
		{`{z="1",y="2",a=~"` + times("(", 51) + `"}`, api.ErrDeep, 2},
		{`{z="1",a!~"(a{99}){99}"}`, api.ErrLarge, 1},
		{"{b=~\"(\",a=\"\xff\"}", api.ErrRegex, 0},
	} {
		if l, e, at := Parse(c.s); l != nil || e != c.e || at != c.at {
			t.Errorf("Parse(%.80q): %+v, %d, %d, not %d, %d", c.s, l, e, at, c.e, c.at)
		}
	}
}

func TestP6_4_ParseCutAtEveryPlace(t *testing.T) {
	s := ` { job = "a\"b\\" , b =~ "\n" , c!="" ,d!~"x" , } `
	want := []api.Matcher{eq("job", `a"b\`), re("b", "\n"), ne("c", ""), nre("d", "x")}
	for n := range len(s) + 1 {
		l, e, at := Parse(s[:n])
		if n >= len(s)-1 {
			if !slices.Equal(l, want) || e != api.OK || at != 0 {
				t.Errorf("Parse(%s): %+v, %d, %d", s[:n], l, e, at)
			}
		} else if l != nil || e != api.ErrForm || at != n {
			t.Errorf("Parse(%s): %+v, %d, %d, not ErrForm, %d", s[:n], l, e, at, n)
		}
	}
}

// What is answered is new memory.
func TestP6_4_Memory(t *testing.T) {
	for range 2 {
		l, e, _ := Parse(`{a="1",b="2",c="3"}`)
		if e != api.OK || !slices.Equal(l, []api.Matcher{eq("a", "1"), eq("b", "2"), eq("c", "3")}) {
			t.Fatal(l, e)
		}
		l[0] = api.Matcher{}
		_ = append(l[:1], api.Matcher{}, api.Matcher{}, api.Matcher{})
	}
	l := append(make([]api.Matcher, 0, 8), eq("a", "\n"), re("b", "x"))
	was := slices.Clone(l)
	if s, e, _ := Print(l); s != `{a="\n",b=~"x"}` || e != api.OK || !slices.Equal(l, was) {
		t.Error(s, e, l)
	}
}

// modelParse: state by state, over the bytes.
func modelParse(s string) ([]api.Matcher, api.Errno, int) {
	if len(s) > 65536 {
		return nil, api.ErrSize, 0
	}
	var l []api.Matcher
	at, state := 0, "open"
	for state != "end" {
		for at < len(s) && (s[at] == ' ' || s[at] == '\t') {
			at++
		}
		rest := s[at:]
		has := func(text string) bool { return strings.HasPrefix(rest, text) }
		switch {
		case state == "open" && has("{"):
			at++
			state = "name"
		case (state == "name" || state == "behind") && has("}"):
			at++
			state = "closed"
		case state == "behind" && has(","):
			at++
			state = "name"
		case state == "name":
			name := rest[:len(rest)-len(strings.TrimLeft(rest, "abcdefghijklmnopqrstuvwxyzABCDEFGHIJKLMNOPQRSTUVWXYZ0123456789_"))]
			if !labels.Name(name) {
				return nil, api.ErrForm, at
			}
			l = append(l, api.Matcher{Name: name})
			at += len(name)
			state = "op"
		case state == "op" && (has("=") || has("!")):
			op, n := map[string]int{"=~": api.MRe, "!=": api.MNe, "!~": api.MNre}[rest[:min(2, len(rest))]], 2
			if op == 0 && has("!") {
				return nil, api.ErrForm, at + 1
			}
			if op == 0 {
				op, n = api.MEq, 1
			}
			l[len(l)-1].Op = op
			at += n
			state = "value"
		case state == "value" && has(`"`):
			v := ""
			for at++; at < len(s) && s[at] != '"'; at++ {
				if s[at] != '\\' {
					v += s[at : at+1]
					continue
				}
				if at+1 == len(s) {
					return nil, api.ErrForm, len(s)
				}
				i := strings.IndexByte(`\"n`, s[at+1])
				if i < 0 {
					return nil, api.ErrForm, at
				}
				v += "\\\"\n"[i : i+1]
				at++
			}
			if at == len(s) {
				return nil, api.ErrForm, at
			}
			at++
			l[len(l)-1].Value = v
			state = "behind"
		case state == "closed" && at == len(s):
			state = "end"
		default:
			return nil, api.ErrForm, at
		}
	}
	if e, at := modelList(l); e != api.OK {
		return nil, e, at
	}
	return l, api.OK, 0
}

func sameParse(t *testing.T, s string) {
	t.Helper()
	want, e, n := modelParse(s)
	l, got, at := Parse(s)
	if !slices.Equal(l, want) || got != e || at != n || e != api.OK && l != nil {
		t.Fatalf("Parse(%.200q): %+v, %d, %d, not %+v, %d, %d", s, l, got, at, want, e, n)
	}
	if e != api.OK {
		return
	}
	u, f, _ := Print(l)
	if again, g, _ := Parse(u); f != api.OK || g != api.OK || !slices.Equal(again, l) {
		t.Fatalf("Parse(%.200q): %+v, printed %q, read as %+v", s, l, u, again)
	}
}

func TestP6_4_ParseAsTheModel(t *testing.T) {
	parts := []string{"a", "b1", "up", "1", ":", "_", "{", "}", ",", "=", "!=", "=~", "!~", "!", "~", `"`, `"1"`, `"\n"`, `"\\d"`, `""`, `\`, " ", "\t", "\n", `a="1"`, `b=~"2",`, `c!~"(",`, "\xff", "é"}
	r := rand.New(rand.NewSource(64))
	for range 50000 {
		var b strings.Builder
		b.WriteString([]string{"", "{", "{a"}[r.Intn(3)])
		for range r.Intn(12) {
			b.WriteString(parts[r.Intn(len(parts))])
		}
		sameParse(t, b.String())
	}
	// Texts that are nearly right: one sign put in, taken away, or changed.
	for range 20000 {
		s, e, _ := Print(anyMatchers(r, 4))
		if e != api.OK {
			continue
		}
		at := r.Intn(len(s) + 1)
		part := parts[r.Intn(len(parts))]
		for _, x := range []string{s, s[:at], s[:at] + part + s[at:], s[:at] + part + s[min(at+1, len(s)):], s[:at] + s[min(at+1, len(s)):]} {
			sameParse(t, x)
		}
	}
}

func FuzzParse(f *testing.F) {
	f.Add(`{job=~"a|b",x!=""}`)
	f.Add(` { a = "\\\"\n" , b!~"(" , } `)
	f.Add("{a=\"\xff\"}")
	f.Fuzz(sameParse)
}
