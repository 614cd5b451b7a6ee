package labels

import (
	"math/rand"
	"strings"
	"testing"

	"tocsin/api"
)

func TestExamplesOfTexts(t *testing.T) {
	for _, c := range []struct {
		l    []api.Label
		want string
	}{
		{of("__name__", "up", "job", "a\"b"), `up{job="a\"b"}`},
		{of("a", "1", "b", "2"), `{a="1",b="2"}`},
		{of("__name__", "up"), "up"},
		{nil, "{}"},
	} {
		if s, e := Print(c.l); s != c.want || e != api.OK {
			t.Errorf("Print(%q): %s, %d, not %s", c.l, s, e, c.want)
		}
	}
	for _, c := range []struct {
		s  string
		l  []api.Label
		e  api.Errno
		at int
	}{
		{`up { job = "x" , }`, of("__name__", "up", "job", "x"), api.OK, 0},
		{`{a="1",a="2"}`, nil, api.ErrTwice, 0},
		{`{a}`, nil, api.ErrForm, 2},
		{`a{__name__="b"}`, nil, api.ErrTwice, 0},
	} {
		if l, e, at := Parse(c.s); !same(l, c.l) || e != c.e || at != c.at {
			t.Errorf("Parse(%s): %q, %d, %d", c.s, l, e, at)
		}
	}
}

// modelPrint: by the words of the document, each value by replacing.
func modelPrint(l []api.Label) (string, api.Errno) {
	if e, _ := modelRight(l); e != api.OK {
		return "", e
	}
	ahead := ""
	var in []string
	for _, one := range l {
		if one.Name == "__name__" && modelName(one.Value, ":", 256) {
			ahead = one.Value
			continue
		}
		v := strings.ReplaceAll(one.Value, `\`, `\\`)
		v = strings.ReplaceAll(v, `"`, `\"`)
		v = strings.ReplaceAll(v, "\n", `\n`)
		in = append(in, one.Name+`="`+v+`"`)
	}
	if ahead != "" && in == nil {
		return ahead, api.OK
	}
	return ahead + "{" + strings.Join(in, ",") + "}", api.OK
}

func TestP4_5_Print(t *testing.T) {
	for _, l := range anyLists() {
		want, e := modelPrint(l)
		if s, got := Print(l); s != want || got != e {
			t.Errorf("Print(%q): %s, %d, not %s, %d", l, s, got, want, e)
		}
	}
	for _, c := range []struct {
		l    []api.Label
		want string
	}{
		{of("__name__", "a b"), `{__name__="a b"}`},
		{of("__name__", "1"), `{__name__="1"}`},
		{of("A", "1", "__name__", "a:b", "a", "2"), `a:b{A="1",a="2"}`},
		{of("A", "1", "__name__", "é", "a", "2"), `{A="1",__name__="é",a="2"}`},
		{of("a", "\\n\n\""), `{a="\\n\n\""}`},
		{of("a", "\r\t\x00"), "{a=\"\r\t\x00\"}"},
	} {
		if s, e := Print(c.l); s != c.want || e != api.OK {
			t.Errorf("Print(%q): %s, %d, not %s", c.l, s, e, c.want)
		}
	}
}

func TestP4_9_ParseOfPrint(t *testing.T) {
	for _, l := range rightSets() {
		s, _ := Print(l)
		if set, e, at := Parse(s); !same(set, l) || e != api.OK || at != 0 {
			t.Errorf("Parse(%s): %q, %d, %d, not %q", s, set, e, at, l)
		}
	}
}

func TestP4_5_ParseReads(t *testing.T) {
	for s, want := range map[string][]api.Label{
		`{}`:                                 nil,
		` { } `:                              nil,
		"\t{\t}\t":                           nil,
		`up`:                                 of("__name__", "up"),
		" \t up\t ":                          of("__name__", "up"),
		`up{}`:                               of("__name__", "up"),
		`up { } `:                            of("__name__", "up"),
		`:`:                                  of("__name__", ":"),
		`a:b{c="1"}`:                         of("__name__", "a:b", "c", "1"),
		`{a="1",}`:                           of("a", "1"),
		"\t{ a\t= \"1\" ,\tb=\t\"2\"\t, } ":  of("a", "1", "b", "2"),
		`{b="1",a="2",_="3"}`:                of("_", "3", "a", "2", "b", "1"),
		`{a="",b="2",c=""}`:                  of("b", "2"),
		`up{a=""}`:                           of("__name__", "up"),
		`{__name__="up"}`:                    of("__name__", "up"),
		`{__name__="",a="1"}`:                of("a", "1"),
		`{__name__="a b"}`:                   of("__name__", "a b"),
		`{a="\\",b="\"",c="\n"}`:             of("a", "\\", "b", "\"", "c", "\n"),
		`{a="\\\\\"\\n"}`:                    of("a", `\\"\n`),
		`{a="\\n"}`:                          of("a", `\n`),
		"{a=\"x\ny\"}":                       of("a", "x\ny"),
		`{a=" , } { = "}`:                    of("a", " , } { = "),
		"{a=\"\t\x00\x7f\"}":                 of("a", "\t\x00\x7f"),
		`{` + times("a", 64) + `="1"}`:       of(times("a", 64), "1"),
		`{a="` + times("v", 256) + `"}`:      of("a", times("v", 256)),
		`{a="` + times(`\n`, 256) + `"}`:     of("a", times("\n", 256)),
		times("m", 256):                      of("__name__", times("m", 256)),
		times("m", 256) + `{a="1"}`:          of("__name__", times("m", 256), "a", "1"),
		times(" ", 65536-2) + "up":           of("__name__", "up"),
		`{a="1"` + times(" ", 65536-7) + "}": of("a", "1"),
	} {
		if l, e, at := Parse(s); !same(l, want) || e != api.OK || at != 0 {
			t.Errorf("Parse(%.80q): %q, %d, %d, not %q", s, l, e, at, want)
		}
	}
}

// many: a text of so many labels, the i-th called by its number.
func many(n int) string {
	var b strings.Builder
	b.WriteByte('{')
	for _, one := range numbered(n) {
		b.WriteString(one.Name + `="` + one.Value + `",`)
	}
	b.WriteByte('}')
	return b.String()
}

func TestP4_5_ParseRefuses(t *testing.T) {
	for _, c := range []struct {
		s  string
		e  api.Errno
		at int
	}{
		// The text is too long: told ahead of all else.
		{times(" ", 65537), api.ErrSize, 0},
		{`{a="1"` + times(" ", 65536-6) + "}", api.ErrSize, 0},
		{times("{", 65537), api.ErrSize, 0},
		// It ends too early.
		{"", api.ErrForm, 0},
		{" \t ", api.ErrForm, 3},
		{"{", api.ErrForm, 1},
		{"up{ ", api.ErrForm, 4},
		{"{a", api.ErrForm, 2},
		{"{a =", api.ErrForm, 4},
		{`{a="`, api.ErrForm, 4},
		{`{a="1`, api.ErrForm, 5},
		{`{a="1\`, api.ErrForm, 6},
		{`{a="1\"`, api.ErrForm, 7},
		{`{a="1" `, api.ErrForm, 7},
		{`{a="1",`, api.ErrForm, 7},
		{times(" ", 65536), api.ErrForm, 65536},
		// It can not go on.
		{"-", api.ErrForm, 0},
		{" }", api.ErrForm, 1},
		{"up up", api.ErrForm, 3},
		{"up}", api.ErrForm, 2},
		{"up\n", api.ErrForm, 2},
		{"up\r", api.ErrForm, 2},
		{"é", api.ErrForm, 0},
		{"upé", api.ErrForm, 2},
		{"up-x", api.ErrForm, 2},
		{`"up"`, api.ErrForm, 0},
		{"{}{}", api.ErrForm, 2},
		{"{} up", api.ErrForm, 3},
		{"{}}", api.ErrForm, 2},
		{"{{", api.ErrForm, 1},
		{"{,}", api.ErrForm, 1},
		{"{ , }", api.ErrForm, 2},
		{`{a="1",,}`, api.ErrForm, 7},
		{`{a="1", , }`, api.ErrForm, 8},
		{`{,a="1"}`, api.ErrForm, 1},
		{`{a="1" b="2"}`, api.ErrForm, 7},
		{`{a="1"b="2"}`, api.ErrForm, 6},
		{`{a="1";b="2"}`, api.ErrForm, 6},
		{`{a="1"]`, api.ErrForm, 6},
		{`{a="1"}x`, api.ErrForm, 7},
		{`{a:b="1"}`, api.ErrForm, 2},
		{`{a b="1"}`, api.ErrForm, 3},
		{`{a!="1"}`, api.ErrForm, 2},
		{`{a=~"1"}`, api.ErrForm, 3},
		{`{a==`, api.ErrForm, 3},
		{`{a=1}`, api.ErrForm, 3},
		{`{a='1'}`, api.ErrForm, 3},
		{"{a\n=\"1\"}", api.ErrForm, 2},
		{`{"a"="1"}`, api.ErrForm, 1},
		{"{\x00=\"1\"}", api.ErrForm, 1},
		// A name that is none is told where it begins.
		{"1up", api.ErrForm, 0},
		{"  9", api.ErrForm, 2},
		{`{1a="1"}`, api.ErrForm, 1},
		{`{a="1", 2="2"}`, api.ErrForm, 8},
		{`{:a="1"}`, api.ErrForm, 1},
		{`{="1"}`, api.ErrForm, 1},
		{`{ ` + times("a", 65) + `="1"}`, api.ErrForm, 2},
		{`{ ` + times("a", 65), api.ErrForm, 2},
		{" " + times("m", 257), api.ErrForm, 1},
		{times("m", 257) + `{a="1"}`, api.ErrForm, 0},
		// A \ with another sign behind it is told where it stands.
		{`{a="\x"}`, api.ErrForm, 4},
		{`{a="12\t"}`, api.ErrForm, 6},
		{"{a=\"1\\\n\"}", api.ErrForm, 5},
		{"{a=\"1\\\xff\"}", api.ErrForm, 5},
		{`{a="\\\N"}`, api.ErrForm, 6},
		{`{a="\n\'"}`, api.ErrForm, 6},
		// The form goes ahead of names that are there twice, these ahead of what is no right set.
		{`{a="1",a="2"`, api.ErrForm, 12},
		{`{a="1",b="2",a=""}`, api.ErrTwice, 0},
		{`{a="",a=""}`, api.ErrTwice, 0},
		{`up{__name__=""}`, api.ErrTwice, 0},
		{`up{__name__="up"}`, api.ErrTwice, 0},
		{"{a=\"\xff\",b=\"\",b=\"\"}", api.ErrTwice, 0},
		{strings.Replace(many(17), "}", `l00003=""}`, 1), api.ErrTwice, 0},
		{many(17), api.ErrFull, 0},
		{many(3000), api.ErrFull, 0},
		{"up" + many(16), api.ErrFull, 0},
		{`{a="` + times("v", 257) + `"}`, api.ErrSize, 0},
		{"{a=\"\xff\"}", api.ErrUtf, 0},
		// The number is that of the label among those that are left, rising by name.
		{"{c=\"\xff\",b=\"1\",a=\"2\"}", api.ErrUtf, 2},
		{"{c=\"\xff\",b=\"1\",a=\"\"}", api.ErrUtf, 1},
		{`{z="` + times("v", 257) + "\",b=\"\xff\",a=\"\",_=\"1\"}", api.ErrUtf, 1},
		{"up{c=\"\xff\",A=\"1\"}", api.ErrUtf, 2},
	} {
		if l, e, at := Parse(c.s); l != nil || e != c.e || at != c.at {
			t.Errorf("Parse(%.80q): %q, %d, %d, not %d, %d", c.s, l, e, at, c.e, c.at)
		}
	}
}

// Names with empty values take no room.
func TestP4_5_EmptyValuesAreLeftOut(t *testing.T) {
	s := strings.Replace(many(16), "}", `y="",z="",A=""}`, 1)
	if l, e, at := Parse(s); !same(l, numbered(16)) || e != api.OK || at != 0 {
		t.Error(l, e, at)
	}
}

// Cut at every place, a text is one that ends too early, but where what stands there is a text of its own.
func TestP4_5_ParseCutAtEveryPlace(t *testing.T) {
	s := ` up:x { job = "a\"b\\" , b="\n" , } `
	for n := range len(s) + 1 {
		cut := s[:n]
		l, e, at := Parse(cut)
		switch word := strings.Trim(cut, " "); {
		case n >= len(s)-1:
			if !same(l, of("__name__", "up:x", "b", "\n", "job", `a"b\`)) || e != api.OK || at != 0 {
				t.Errorf("Parse(%s): %q, %d, %d", cut, l, e, at)
			}
		case Metric(word):
			if !same(l, of("__name__", word)) || e != api.OK || at != 0 {
				t.Errorf("Parse(%s): %q, %d, %d", cut, l, e, at)
			}
		default:
			if l != nil || e != api.ErrForm || at != n {
				t.Errorf("Parse(%s): %q, %d, %d, not ErrForm, %d", cut, l, e, at, n)
			}
		}
	}
}

// modelParse: the text as a list of parts, looked at one by one.
func modelParse(s string) ([]api.Label, api.Errno, int) {
	if len(s) > 65536 {
		return nil, api.ErrSize, 0
	}
	at := 0
	blanks := func() {
		for at < len(s) && (s[at] == ' ' || s[at] == '\t') {
			at++
		}
	}
	next := func() byte {
		blanks()
		if at < len(s) {
			return s[at]
		}
		return 0xff
	}
	run := func(signs string) string {
		n := at
		for n < len(s) && strings.IndexByte(signs, s[n]) >= 0 {
			n++
		}
		return s[at:n]
	}
	var l []api.Label
	blanks()
	if ahead := run(letters + "0123456789_:"); ahead != "" {
		if !modelName(ahead, ":", 256) {
			return nil, api.ErrForm, at
		}
		l = append(l, api.Label{Name: "__name__", Value: ahead})
		at += len(ahead)
	}
	state := "open"
	if next() == 0xff && at == len(s) && l != nil {
		state = "end"
	}
	for state != "end" {
		c := next()
		switch {
		case state == "open" && c == '{':
			state = "first"
		case state == "first" && c == '}', state == "behind" && c == '}':
			state = "closed"
		case state == "behind" && c == ',':
			state = "first"
		case state == "first" && at < len(s):
			name := run(letters + "0123456789_")
			if !modelName(name, "", 64) {
				return nil, api.ErrForm, at
			}
			l = append(l, api.Label{Name: name})
			at += len(name) - 1
			state = "equal"
		case state == "equal" && c == '=':
			state = "quote"
		case state == "quote" && c == '"':
			v := ""
			for at++; ; at++ {
				if at == len(s) {
					return nil, api.ErrForm, at
				}
				if s[at] == '"' {
					break
				}
				if s[at] != '\\' {
					v += s[at : at+1]
					continue
				}
				if at+1 == len(s) {
					return nil, api.ErrForm, at + 1
				}
				i := strings.IndexByte(`\"n`, s[at+1])
				if i < 0 {
					return nil, api.ErrForm, at
				}
				v += "\\\"\n"[i : i+1]
				at++
			}
			l[len(l)-1].Value = v
			state = "behind"
		case state == "closed" && at == len(s):
			state = "end"
			continue
		default:
			return nil, api.ErrForm, at
		}
		at++
	}
	return modelMake(l)
}

func sameParse(t *testing.T, s string) {
	t.Helper()
	want, e, n := modelParse(s)
	l, got, at := Parse(s)
	if !same(l, want) || got != e || at != n || e != api.OK && l != nil {
		t.Fatalf("Parse(%.200q): %q, %d, %d, not %q, %d, %d", s, l, got, at, want, e, n)
	}
	if e != api.OK {
		return
	}
	u, f := Print(l)
	if again, g, _ := Parse(u); f != api.OK || g != api.OK || !same(again, l) {
		t.Fatalf("Parse(%.200q): %q, printed %q, read as %q", s, l, u, again)
	}
}

func TestP4_5_ParseAsTheModel(t *testing.T) {
	parts := []string{"a", "b", "up", "1", ":", "_", "{", "}", ",", "=", `"`, `"1"`, `"\n"`, `"\\"`, `""`, `\`, " ", "\t", "\n", `a="1"`, `b="2",`, `a="",`, "\xff", "é", "__name__"}
	r := rand.New(rand.NewSource(45))
	for range 50000 {
		var b strings.Builder
		for range r.Intn(12) {
			b.WriteString(parts[r.Intn(len(parts))])
		}
		sameParse(t, b.String())
	}
	// Texts that are nearly right: one sign put in, taken away, or changed.
	for range 20000 {
		sets := anyLabels(r, 6)
		set, e := Make(sets)
		if e != api.OK {
			continue
		}
		s, _ := Print(set)
		sameParse(t, s)
		at := r.Intn(len(s) + 1)
		part := parts[r.Intn(len(parts))]
		sameParse(t, s[:at]+part+s[at:])
		sameParse(t, s[:at])
		sameParse(t, s[:at]+part+s[min(at+1, len(s)):])
		sameParse(t, s[:at]+s[min(at+1, len(s)):])
	}
}

func FuzzParse(f *testing.F) {
	f.Add(`up { job = "x" , }`)
	f.Add(`{a="\\",b="\n"}`)
	f.Add("{a=\"\xff\"}")
	f.Fuzz(sameParse)
}
