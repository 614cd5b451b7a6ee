package expo

import (
	"math/rand"
	"slices"
	"strconv"
	"strings"
	"testing"

	"tocsin/api"
)

func TestP12_2_Samples(t *testing.T) {
	long := strings.Repeat("n", 256)
	for s, want := range map[string]Sample{
		`up{job="a"} 1`:                 smp(1, -1, "up", "job", "a"),
		"http_total 1027 1395066363000": smp(1027, 1395066363000, "http_total"),
		"x 1":                           smp(1, -1, "x"),
		"x{} 1":                         smp(1, -1, "x"),
		"x{ \t} 1":                      smp(1, -1, "x"),
		`x{a=""} 1`:                     smp(1, -1, "x"),
		`x{b="2",a="1",} 1 5`:           smp(1, 5, "x", "a", "1", "b", "2"),
		":a:b_9 -1.5e3 0":               smp(-1500, 0, ":a:b_9"),
		"_ NaN":                         smp(nan, -1, "_"),
		"x +Inf":                        smp(mustFloat("+Inf"), -1, "x"),
		"x -Inf 7":                      smp(mustFloat("-Inf"), 7, "x"),
		"x Inf":                         smp(mustFloat("Inf"), -1, "x"),
		"x -0":                          smp(minusZero, -1, "x"),
		`x{a="}"} 1`:                    smp(1, -1, "x", "a", "}"),
		`x{a="\"}"} 1`:                  smp(1, -1, "x", "a", `"}`),
		`x{a="\\"} 1`:                   smp(1, -1, "x", "a", `\`),
		`x{a="\n"} 1`:                   smp(1, -1, "x", "a", "\n"),
		`x{a="# {é, ="} 1`:              smp(1, -1, "x", "a", "# {é, ="),
		"x{a=\"\r\x00\"} 1":             smp(1, -1, "x", "a", "\r\x00"),
		"NaN NaN":                       smp(nan, -1, "NaN"),
		"TYPE 1":                        smp(1, -1, "TYPE"),
		long + " 1":                     smp(1, -1, long),
		"x 1 1125899906842624":          smp(1, 1<<50, "x"), // 16 digits, MaxTime
		"x 1 0000000000000005":          smp(1, 5, "x"),     // 16 digits
		"x 1 00":                        smp(1, 0, "x"),
		// Blanks may stand between two parts; where these are told apart without, none need.
		`up{job="a"}1`:               smp(1, -1, "up", "job", "a"),
		`up{job="a"}1 2`:             smp(1, 2, "up", "job", "a"),
		" \tup \t{ job\t= \"a\" } 1": smp(1, -1, "up", "job", "a"),
		"\t x \t 1\t \t2 \t":         smp(1, 2, "x"),
		"x\t1\t2":                    smp(1, 2, "x"),
		"x+1":                        smp(1, -1, "x"),
		"x-Inf 3":                    smp(mustFloat("-Inf"), 3, "x"),
		"x.5":                        smp(0.5, -1, "x"),
	} {
		got, is, e := Line(s)
		if e != api.OK || !is || !same(got, want) {
			t.Errorf("Line(%q): %v, %v, %d, not %v", s, got, is, e, want)
		}
		checkLine(t, s)
	}
}

func mustFloat(s string) float64 {
	v, _ := modelFloat(s)
	return v
}

func TestP12_2_LinesThatSayNoSample(t *testing.T) {
	for s, want := range map[string]Meta{
		"": {}, " ": {}, "\t": {}, " \t \t": {},
		"#": {}, "# ": {}, "#\t ": {}, " #": {}, "##": {}, "# a remark": {}, "#remark": {}, "# é \xff": {},
		"#TYPE x y": {}, "#TYPE x counter": {}, "#HELP": {}, "#HELP x": {}, "#TYPE": {}, "## TYPE x": {}, "#! HELP 1": {},
		"# TYPES x counter": {}, "# type x counter": {}, "# help x": {}, "# HELPx": {}, "# TYPE,": {}, "# x TYPE": {}, "# -": {}, "# {": {},
		"# TYPE x counter":                              {"TYPE", "x", "counter"},
		"# TYPE x gauge":                                {"TYPE", "x", "gauge"},
		"# TYPE x histogram":                            {"TYPE", "x", "histogram"},
		"# TYPE x summary":                              {"TYPE", "x", "summary"},
		"# TYPE x untyped":                              {"TYPE", "x", "untyped"},
		" \t# \tTYPE\t a:b_1 \tgauge \t":                {"TYPE", "a:b_1", "gauge"},
		"#\tTYPE\tx\tgauge":                             {"TYPE", "x", "gauge"},
		"# TYPE " + strings.Repeat("n", 256) + " gauge": {"TYPE", strings.Repeat("n", 256), "gauge"},
		"# HELP x":                                      {"HELP", "x", ""},
		"# HELP x ":                                     {"HELP", "x", ""},
		"# HELP x \t ":                                  {"HELP", "x", ""},
		"# HELP x a text":                               {"HELP", "x", "a text"},
		"\t#\t HELP\t x \t a  text \t":                  {"HELP", "x", "a  text \t"},
		`# HELP x \\`:                                   {"HELP", "x", `\`},
		`# HELP x \n`:                                   {"HELP", "x", "\n"},
		`# HELP x a\\nb\nc`:                             {"HELP", "x", "a\\nb\nc"},
		`# HELP x \\\n\\\\n`:                            {"HELP", "x", "\\\n\\\\n"},
		`# HELP x \t\"\a\`:                              {"HELP", "x", `\t\"\a\`},
		`# HELP x \`:                                    {"HELP", "x", `\`},
		`# HELP x \\\`:                                  {"HELP", "x", `\\`},
		`# HELP x \é\` + "\xff\x00":                     {"HELP", "x", `\é\` + "\xff\x00"},
		"# HELP x é\r":                                  {"HELP", "x", "é\r"},
		"# HELP HELP HELP":                              {"HELP", "HELP", "HELP"},
		"# HELP " + strings.Repeat("n", 256) + " # TYPE x": {"HELP", strings.Repeat("n", 256), "# TYPE x"},
	} {
		if got, is, e := Line(s); e != api.OK || is || !zero(got) {
			t.Errorf("Line(%q): %v, %v, %d", s, got, is, e)
		}
		checkLine(t, s)
		_, m, e, _ := Parse(s)
		if e != api.OK || want == (Meta{}) && len(m) != 0 || want != (Meta{}) && !slices.Equal(m, []Meta{want}) {
			t.Errorf("Parse(%q): %q, %d, not %q", s, m, e, want)
		}
	}
}

func TestP12_2_LinesThatAreNone(t *testing.T) {
	wide := make([]string, 16)
	for i := range wide {
		wide[i] = "l" + strconv.Itoa(10+i) + `="v"`
	}
	if _, is, e := Line("x{" + strings.Join(wide[:15], ",") + "} 1"); !is || e != api.OK {
		t.Error("16 labels with the name", is, e)
	}
	for _, s := range []string{
		"x", "x ", "x{}", `x{a="1"}`, "1", "1 1", "+Inf", "-", "é 1", "\xff 1", "\r", "x 1\r", "\x00", "x\v1", "x\u00a01",
		"x 1 2 3", "x 1 2 #", "x 1 # 2", "x 1 #", "x 1 2.", "x 1 -1", "x 1 +1", "x 1 1e3", "x 1 a", "x 1 0x1", "x 1 ٣",
		"x 1 1125899906842625", "x 1 9999999999999999", "x 1 00000000000000005", "x 1 12345678901234567", "x 1 " + strings.Repeat("0", 17), "x 1 " + strings.Repeat("9", 400),
		"x a", "x 1e12345", "x 1e", "x .", "x +", "x inf", "x NaN5", "x Inf5", "x + Inf", "x 1.5.5", "x " + strings.Repeat("1", 65), "x - 1", "x 1 .5",
		"x1", "xNaN", "x12", "u p 1", "x -", "x,1", "x=1", "x;1", "x\"1\"",
		`{a="1"} 1`, `{__name__="x"} 1`, `{} 1`, `x{__name__="x"} 1`, `x{__name__="y"} 1`, `x{__name__=""} 1`, `x{a="1",__name__="y"} 1`,
		`x{a="1"`, `x{a="1" 1`, `x{a="1} 1`, `x{a="1\"} 1`, `x{ 1`, `x} 1`, `x{}} 1`, `x{{} 1`, `x{}{} 1`, `x {a="1"} {b="1"} 1`, `x{,} 1`, `x{a="1",,} 1`, `x{a} 1`, `x{a=1} 1`, `x{a='1'} 1`, `x{"a"="1"} 1`,
		`x{a="1" b="1"} 1`, `x{a="1",a="2"} 1`, `x{a="1",a="1"} 1`, `x{a="",a="1"} 1`, `x{a="\t"} 1`, `x{a!="1"} 1`, `x{-="1"} 1`, `x{1a="1"} 1`, `x{a:b="1"} 1`, "x{a=\"\xff\"} 1", `x{a b="1"} 1`,
		`x{a="` + strings.Repeat("v", 257) + `"} 1`, `x{` + strings.Repeat("n", 65) + `="v"} 1`, "x{" + strings.Join(wide, ",") + "} 1",
		strings.Repeat("n", 257) + " 1", "9x 1", "x-y 1", "x.y 1", "x/y 1", "x 1 2\x00",
		"# TYPE", "# TYPE ", "# TYPE x", "# TYPE x ", "# TYPE x y", "# TYPE x Counter", "# TYPE x counters", "# TYPE x counter gauge", "# TYPE x counter x", "# TYPE x counter #", "# TYPE 1 counter", "# TYPE x-y counter", "# TYPE x{} counter", "# TYPE counter", "# TYPE x,counter", "# TYPE é counter",
		"# TYPE " + strings.Repeat("n", 257) + " gauge", " \t#\t TYPE x",
		"# HELP", "# HELP ", "#\tHELP\t", "# HELP 1x text", "# HELP é text", "# HELP x-y text", "# HELP x{} text", "# HELP - text", "# HELP \xff", "# HELP " + strings.Repeat("n", 257) + " text",
	} {
		if got, is, e := Line(s); e != api.ErrLine || is || !zero(got) {
			t.Errorf("Line(%q): %v, %v, %d", s, got, is, e)
		}
		checkLine(t, s)
	}
}

func TestP12_2_ByteTen(t *testing.T) {
	for _, s := range []string{"\n", "x 1\n", "\nx 1", "x\n1", "x 1\n\n", "# a\n", "#\n", " \n", "x{a=\"\n\"} 1", "# HELP x a\nb", "# TYPE x\ngauge", "x 1\ny 2"} {
		if got, is, e := Line(s); e != api.ErrLine || is || !zero(got) {
			t.Errorf("Line(%q): %v, %v, %d", s, got, is, e)
		}
	}
}

// A line may be longer than a text.
func TestP12_2_LongLines(t *testing.T) {
	much := strings.Repeat(" ", 70000)
	for _, s := range []string{much, much + "x" + much + "1" + much + "2" + much, "# " + much, "# HELP x " + much + "a", "#" + much + "TYPE" + much + "x" + much + "gauge" + much} {
		checkLine(t, s)
		if _, _, e := Line(s); e != api.OK {
			t.Error(e)
		}
	}
}

// Blanks, or none, at each place between two parts, and within each part.
func TestP12_6_Blanks(t *testing.T) {
	for _, parts := range [][]string{
		{"up", "{", "job", "=", `"a"`, ",", "x", "=", `"b c"`, ",", "}", "1.5e1", "20"},
		{"up", "{", "}", "-Inf"},
		{"up", "1", "2"},
		{"#", "TYPE", "up", "gauge"},
		{"#", "HELP", "up", `a\\b`},
		{"#", "a", "remark"},
	} {
		plain := strings.Join(parts, " ")
		one, _, e := modelLine(plain)
		if e != api.OK {
			t.Fatal(plain)
		}
		for i := range len(parts) + 1 {
			for _, blank := range []string{" ", "\t", " \t ", strings.Repeat("\t", 50)} {
				s := strings.Join(parts[:i], " ") + blank + strings.Join(parts[i:], " ")
				if got, is, e := Line(s); e != api.OK || is != (one != nil) || one != nil && !same(got, *one) {
					t.Errorf("Line(%q): %v, %v, %d", s, got, is, e)
				}
				checkLine(t, s)
			}
			if i > 0 {
				checkLine(t, strings.Join(parts[:i], " ")+strings.Join(parts[i:], " "))
			}
		}
		for i := range plain {
			for _, other := range []string{" ", "\t", "\r", "\v", "\u00a0", "\x00"} {
				checkLine(t, plain[:i]+other+plain[i:])
			}
			checkLine(t, plain[:i])
			checkLine(t, plain[i:])
			checkLine(t, plain[:i]+plain[i+1:])
		}
	}
}

var pieces = []string{
	"", " ", "\t", "  ", "x", "up", "a:b", "9", "#", "# ", "TYPE", "HELP", "# TYPE ", "# HELP ", "counter", "gauge", " untyped", "{", "}", "{}", `{a="1"}`, `{a="1",b="}"}`, `a="1"`, `"`, `\`, `\\`, `\n`, ",", "=", `__name__="y"`,
	"1", " 1", " 2", "1.5", "+Inf", "NaN", " NaN", "-", "+1", "e5", ".5", "1125899906842624", "1125899906842625", "é", "\xff", "\r",
}

func anyLine(r *rand.Rand) string {
	var b strings.Builder
	for range 1 + r.Intn(7) {
		b.WriteString(pieces[r.Intn(len(pieces))])
	}
	return b.String()
}

func TestP12_2_AsTheModel(t *testing.T) {
	r := rand.New(rand.NewSource(122))
	for range 100000 {
		checkLine(t, anyLine(r))
	}
}

func TestP12_2_Parse(t *testing.T) {
	text := "# HELP up is it there\n# TYPE up gauge\nup{job=\"a\"} 1 1395066363000\n\n# a remark\n \t\nx +Inf\n# TYPE up counter\nup{job=\"a\"} 1 1395066363000\n"
	samples := []Sample{smp(1, 1395066363000, "up", "job", "a"), smp(mustFloat("Inf"), -1, "x"), smp(1, 1395066363000, "up", "job", "a")}
	metas := []Meta{{"HELP", "up", "is it there"}, {"TYPE", "up", "gauge"}, {"TYPE", "up", "counter"}}
	for _, s := range []string{text, strings.TrimSuffix(text, "\n"), text + "\n", "\n" + text, text + "\n \n\t"} {
		l, m, e, n := Parse(s)
		if e != api.OK || n != 0 || !sameAll(l, samples) || !slices.Equal(m, metas) {
			t.Errorf("Parse(%q): %v, %v, %d, %d", s, l, m, e, n)
		}
	}
	for _, s := range []string{"", "\n", "\n\n\n", "#", "# x\n"} {
		if l, m, e, n := Parse(s); len(l) != 0 || len(m) != 0 || e != api.OK || n != 0 {
			t.Errorf("Parse(%q): %v, %v, %d, %d", s, l, m, e, n)
		}
	}
	for s, want := range map[string]int{
		"x": 0, "x\n": 0, "x 1\nx 1 2 3\n": 1, "x 1\nx 1 2 3": 1, "\n\n\nx": 3, "x 1\n# TYPE x\nx": 1, "x 1\nx\n# TYPE x\n": 1, "# TYPE x gauge\nx 1\n\ny": 3, "x\nx\nx": 0, "x 1\r\n": 0,
		strings.Repeat("x 1\n", 10000) + "x": 10000,
	} {
		if l, m, e, n := Parse(s); l != nil || m != nil || e != api.ErrLine || n != want {
			t.Errorf("Parse(%q): %v, %v, %d, %d, not %d", s, l, m, e, n, want)
		}
	}
}

func TestP12_2_MaxText(t *testing.T) {
	line := "x 1\n"
	full := strings.Repeat(line, 65536/4)
	if l, _, e, n := Parse(full); len(l) != 16384 || e != api.OK || n != 0 {
		t.Error("so many bytes", len(l), e, n)
	}
	for _, s := range []string{full + "\n", full + " ", "x\n" + full, strings.Repeat("#", 65537), strings.Repeat("x", 1<<20)} {
		if l, m, e, n := Parse(s); l != nil || m != nil || e != api.ErrSize || n != 0 {
			t.Error("more", len(l), len(m), e, n)
		}
	}
	wide := strings.Repeat(" ", 65535-3) + "x 1\n"
	if l, _, e, n := Parse(wide); len(l) != 1 || e != api.OK || n != 0 {
		t.Error("one line", len(l), e, n)
	}
	if l, _, e, n := Parse(wide[3:] + "x\ny"); l != nil || e != api.ErrLine || n != 1 {
		t.Error("with a fault", len(l), e, n)
	}
}

func TestP12_2_ParseAsTheModel(t *testing.T) {
	r := rand.New(rand.NewSource(123))
	good := []string{"x 1", "", " ", "# r", "# TYPE x gauge", "# HELP x a", `up{a="1"} 2 3`}
	for range 20000 {
		var lines []string
		for range r.Intn(6) {
			if r.Intn(4) == 0 {
				lines = append(lines, anyLine(r))
			} else {
				lines = append(lines, good[r.Intn(len(good))])
			}
		}
		checkParse(t, strings.Join(lines, "\n"))
	}
}

// Empty lines and remarks change no sample.
func TestP12_6_Remarks(t *testing.T) {
	r := rand.New(rand.NewSource(126))
	lines := []string{`up{a="1"} 1`, "x 2 3", "y NaN"}
	want, _, _, _ := Parse(strings.Join(lines, "\n"))
	for range 500 {
		var with []string
		for _, line := range lines {
			for range r.Intn(3) {
				with = append(with, []string{"", " ", "\t", "#", "# remark", "#x", "# TYPE up gauge", "# HELP x 1"}[r.Intn(8)])
			}
			with = append(with, []string{"", " ", "\t "}[r.Intn(3)]+line+[]string{"", " ", "\t "}[r.Intn(3)])
		}
		got, _, e, _ := Parse(strings.Join(with, "\n"))
		if e != api.OK || !sameAll(got, want) {
			t.Fatalf("%q: %v, %d", with, got, e)
		}
	}
}

func collect(s string) []string {
	var out []string
	for n, line := range Lines(s) {
		if n != len(out) {
			return []string{"numbers that do not rise"}
		}
		out = append(out, line)
	}
	return out
}

func TestP12_4_Lines(t *testing.T) {
	for s, want := range map[string][]string{
		"":           nil,
		"\n":         {""},
		"a":          {"a"},
		"a\n":        {"a"},
		"a\nb":       {"a", "b"},
		"a\nb\n":     {"a", "b"},
		"\na":        {"", "a"},
		"a\n\n":      {"a", ""},
		"\n\n\n":     {"", "", ""},
		"a\r\nb":     {"a\r", "b"},
		" \xff\né ":  {" \xff", "é "},
		"a\x00\n\tb": {"a\x00", "\tb"},
	} {
		if got := collect(s); !slices.Equal(got, want) {
			t.Errorf("Lines(%q): %q, not %q", s, got, want)
		}
	}
	much := strings.Repeat("line\n", 100000)
	if got := collect(much); len(got) != 100000 {
		t.Error("many", len(got))
	}
}

func TestP12_4_LinesAreLeftEarly(t *testing.T) {
	lines := Lines("a\nb\nc\nd")
	for left := range 5 {
		var seen []string
		for n, line := range lines {
			if n == left {
				break
			}
			seen = append(seen, line)
		}
		if strings.Join(seen, "") != "abcd"[:left] {
			t.Error("left at", left, seen)
		}
	}
	count := 0
	for range lines {
		for range lines {
			count++
		}
	}
	if count != 16 {
		t.Error("within itself", count)
	}
}

func checkLines(t *testing.T, s string) {
	t.Helper()
	lines := collect(s)
	whole := strings.Join(lines, "\n")
	if whole != s && whole+"\n" != s {
		t.Fatalf("Lines(%q): %q", s, lines)
	}
	for _, line := range lines {
		if strings.Contains(line, "\n") {
			t.Fatalf("Lines(%q): %q", s, lines)
		}
	}
}

func TestP12_7_LinesTogether(t *testing.T) {
	r := rand.New(rand.NewSource(127))
	for range 5000 {
		b := make([]byte, r.Intn(12))
		for i := range b {
			b[i] = "ab \n\n\xff"[r.Intn(6)]
		}
		checkLines(t, string(b))
	}
}

func TestExamples(t *testing.T) {
	l, _, e, _ := Parse("up{job=\"a\"} 1\nhttp_total 1027 1395066363000")
	if e != api.OK || !sameAll(l, []Sample{smp(1, -1, "up", "job", "a"), smp(1027, 1395066363000, "http_total")}) {
		t.Error(l, e)
	}
	for s, want := range map[string]api.Errno{"x 1 2 3": api.ErrLine, "x": api.ErrLine, "# TYPE x counter": api.OK, "#TYPE x y": api.OK, "# TYPE x": api.ErrLine} {
		if _, is, e := Line(s); is || e != want {
			t.Error(s, is, e)
		}
	}
	if _, m, _, _ := Parse("# TYPE x counter\n#TYPE x y"); !slices.Equal(m, []Meta{{"TYPE", "x", "counter"}}) {
		t.Error(m)
	}
	for v, want := range map[float64]string{0.1: "0.1", 1e21: "1e+21", 1e20: "100000000000000000000", 0.000001: "0.000001", 1e-7: "1e-07"} {
		if s := Text(v); s != want {
			t.Error(s, want)
		}
	}
	for s, want := range map[string]float64{"1.": 1, ".5e1": 5, "1e999": mustFloat("+Inf")} {
		if v, e := Float(s); v != want || e != api.OK {
			t.Error(s, v, e)
		}
	}
	if v, e := Float("e1"); v != 0 || e != api.ErrForm {
		t.Error(v, e)
	}
}

// What is answered may be written into.
func TestP12_2_Memory(t *testing.T) {
	s := "up{a=\"1\"} 1\nup{a=\"1\"} 1\n# TYPE x gauge\n"
	for range 2 {
		l, m, _, _ := Parse(s)
		if !sameAll(l, []Sample{smp(1, -1, "up", "a", "1"), smp(1, -1, "up", "a", "1")}) || !slices.Equal(m, []Meta{{"TYPE", "x", "gauge"}}) {
			t.Fatal(l, m)
		}
		_ = append(l[0].Labels, api.Label{Name: "!"})
		l[0].Labels[0] = api.Label{Name: "!"}
		if !same(l[1], smp(1, -1, "up", "a", "1")) {
			t.Error("shared within an answer", l)
		}
		m[0] = Meta{}
		one, _, _ := Line(`up{a="1"} 1`)
		if !same(one, smp(1, -1, "up", "a", "1")) {
			t.Error(one)
		}
		one.Labels[0].Value = "!"
	}
}

func FuzzParse(f *testing.F) {
	f.Add("# TYPE up gauge\nup{job=\"a\"} 1 1395066363000\n\n# a remark\nx +Inf\n")
	f.Add(`x{a="\"}"}1 2`)
	f.Add("# HELP x a\\\\b\\n")
	f.Fuzz(func(t *testing.T, s string) {
		checkParse(t, s)
		checkLines(t, s)
		for _, line := range strings.Split(s, "\n") {
			checkLine(t, line)
		}
		if l, m, e, _ := Parse(s); e == api.OK {
			checkAgain(t, l, m)
		}
	})
}
