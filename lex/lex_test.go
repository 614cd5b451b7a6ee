package lex

import (
	"math"
	"math/rand"
	"slices"
	"strings"
	"testing"

	"tocsin/api"
)

func rep(s string, n int) string { return strings.Repeat(s, n) }

func token(kind int, text string, at int) api.Token {
	return api.Token{Kind: kind, Text: text, At: at}
}

// some: tokens of the kinds and texts, each with a place of no matter.
func some(all ...any) []api.Token {
	var l []api.Token
	for i := 0; i < len(all); i += 2 {
		l = append(l, token(all[i].(int), all[i+1].(string), 1000-i))
	}
	return l
}

// checkTokens holds Tokens against the model, and the answer's places against the text.
func checkTokens(t *testing.T, s string) {
	t.Helper()
	l, e, at := Tokens(s)
	want, we, wat := modelTokens(s)
	if e != we || at != wat || !slices.Equal(l, want) {
		t.Fatalf("Tokens(%.200q): %v, %d, %d, not %v, %d, %d", s, l, e, at, want, we, wat)
	}
	if e != api.OK && len(l) != 0 {
		t.Fatalf("Tokens(%.200q): beside an error %v", s, l)
	}
}

// pieces: of which texts are put together.
var pieces = []string{
	"", " ", "\t", "\n", "\r", "#", "# x\n", "#\"", "\n#\r x\n",
	"a", "Z", "_", ":", "a:b_1", "rate", "e", "x", "s", "m", "ms", "y",
	"0", "1", "12", "007", "1.", ".5", "1.5", "1e3", "1E+3", "1e-3", "1.e2", ".5e1", "e5", "1e", "1e+", "0x", "0X1f", "0x1F", "0xg", ".", "..", "1.2.3", "0x1.", "1e5.", "1_", "1:", "0x1e+5",
	"5m", "5ms", "5s", "1y", "1w", "1d", "1h", "1h30m", "30m1h", "5mm", "5m5m", "1m5ms", "1s5ms", "5ms5s", "1y2w3d4h5m6s7ms", "5m.", "5m_", "5m:", "5m5", "1.5m", "0s", "00s", "5M", "5 m",
	`""`, `''`, `"a"`, `'a'`, `"a'b"`, `'a"b'`, `"\\\"\'\n\t\r\x00\x7F"`, `'\\\"\'\n\t\r\x00\x7f'`, `"\x80"`, `"\x8"`, `"\xg0"`, `"\xff"`, `"\a"`, `"\`, `"`, `'`, "\"\n\"", "'\n'", "\"\r\t\x00\x7f\"", "\"é日𝄞\"", "\"\xff\"", "\"\xc3\"", "\"\xef\xbf\xbd\"", `"\é"`, "\"\\\xff\"", "\"\\\n\"",
	"(", ")", "{", "}", "[", "]", ",", "=", "!=", "=~", "!~", "+", "-", "*", "/", "%", "^", "==", ">", "<", ">=", "<=",
	"!", "~", "!!", "=!", "===", "=~~", "<>", "><=", "=>", "@", "é", "\xff", "\x00", "&", ";", "$", "?", "|", "\\", "`", "\u00a0", "\v", "\f",
}

func TestExamples(t *testing.T) {
	l, e, at := Tokens(`rate(a:b{x=~"c.*"}[5m]) > 1.5e3`)
	want := []api.Token{
		token(api.TIdent, "rate", 0), token(api.TSign, "(", 4), token(api.TIdent, "a:b", 5), token(api.TSign, "{", 8), token(api.TIdent, "x", 9), token(api.TSign, "=~", 10), token(api.TString, "c.*", 12), token(api.TSign, "}", 17),
		token(api.TSign, "[", 18), token(api.TSpan, "5m", 19), token(api.TSign, "]", 21), token(api.TSign, ")", 22), token(api.TSign, ">", 24), token(api.TNumber, "1.5e3", 26), token(api.TEnd, "", 31),
	}
	if e != api.OK || at != 0 || !slices.Equal(l, want) {
		t.Error(l, e, at)
	}
	for _, s := range []string{"5mm", "\"a", "1.2.3", "!"} {
		if l, e, at := Tokens(s); l != nil || e != api.ErrToken || at != 0 {
			t.Error(s, l, e, at)
		}
	}
	if n, e := Span("1h30m"); n != 5400000 || e != api.OK {
		t.Error(n, e)
	}
	if n, e := Span("30m1h"); n != 0 || e != api.ErrToken {
		t.Error(n, e)
	}
	if s, e := SpanText(0); s != "0s" || e != api.OK {
		t.Error(s, e)
	}
	if v, e := Number(".5"); v != 0.5 || e != api.OK {
		t.Error(v, e)
	}
	if v, e := Number("0x1F"); v != 31 || e != api.OK {
		t.Error(v, e)
	}
}

func TestP13_1_TokensAndPlaces(t *testing.T) {
	for _, c := range []struct {
		s string
		l []api.Token
	}{
		{"", []api.Token{token(api.TEnd, "", 0)}},
		{" \t\n\r ", []api.Token{token(api.TEnd, "", 5)}},
		{"# all of it", []api.Token{token(api.TEnd, "", 11)}},
		{"#", []api.Token{token(api.TEnd, "", 1)}},
		{" # \xff \" (\n#\n\t", []api.Token{token(api.TEnd, "", 12)}},
		{"# a \r b\nc", []api.Token{token(api.TIdent, "c", 8), token(api.TEnd, "", 9)}},
		{"a#b\nc", []api.Token{token(api.TIdent, "a", 0), token(api.TIdent, "c", 4), token(api.TEnd, "", 5)}},
		{"\"#\"#\"", []api.Token{token(api.TString, "#", 0), token(api.TEnd, "", 5)}},
		{"é", nil},
		{"a5m", []api.Token{token(api.TIdent, "a5m", 0), token(api.TEnd, "", 3)}},
		{":", []api.Token{token(api.TIdent, ":", 0), token(api.TEnd, "", 1)}},
		{"a.5", []api.Token{token(api.TIdent, "a", 0), token(api.TNumber, ".5", 1), token(api.TEnd, "", 3)}},
		{"1.", []api.Token{token(api.TNumber, "1.", 0), token(api.TEnd, "", 2)}},
		{"1.e2", []api.Token{token(api.TNumber, "1.e2", 0), token(api.TEnd, "", 4)}},
		{"0x1e+5", []api.Token{token(api.TNumber, "0x1e", 0), token(api.TSign, "+", 4), token(api.TNumber, "5", 5), token(api.TEnd, "", 6)}},
		{"1e+5", []api.Token{token(api.TNumber, "1e+5", 0), token(api.TEnd, "", 4)}},
		{"1+5", []api.Token{token(api.TNumber, "1", 0), token(api.TSign, "+", 1), token(api.TNumber, "5", 2), token(api.TEnd, "", 3)}},
		{"5m-1", []api.Token{token(api.TSpan, "5m", 0), token(api.TSign, "-", 2), token(api.TNumber, "1", 3), token(api.TEnd, "", 4)}},
		{"5\"a\"5", []api.Token{token(api.TNumber, "5", 0), token(api.TString, "a", 1), token(api.TNumber, "5", 4), token(api.TEnd, "", 5)}},
		{"5ms", []api.Token{token(api.TSpan, "5ms", 0), token(api.TEnd, "", 3)}},
		{"5m5ms", []api.Token{token(api.TSpan, "5m5ms", 0), token(api.TEnd, "", 5)}},
		{"5 m", []api.Token{token(api.TNumber, "5", 0), token(api.TIdent, "m", 2), token(api.TEnd, "", 3)}},
		{"===~", []api.Token{token(api.TSign, "==", 0), token(api.TSign, "=~", 2), token(api.TEnd, "", 4)}},
		{"===", []api.Token{token(api.TSign, "==", 0), token(api.TSign, "=", 2), token(api.TEnd, "", 3)}},
		{"=!=", []api.Token{token(api.TSign, "=", 0), token(api.TSign, "!=", 1), token(api.TEnd, "", 3)}},
		{"<=>=<>", []api.Token{token(api.TSign, "<=", 0), token(api.TSign, ">=", 2), token(api.TSign, "<", 4), token(api.TSign, ">", 5), token(api.TEnd, "", 6)}},
		{"!~!=", []api.Token{token(api.TSign, "!~", 0), token(api.TSign, "!=", 2), token(api.TEnd, "", 4)}},
		{"--", []api.Token{token(api.TSign, "-", 0), token(api.TSign, "-", 1), token(api.TEnd, "", 2)}},
		{`"\\\"\'\n\t\r\x41\x7F\x7f\x00"`, []api.Token{token(api.TString, "\\\"'\n\t\rA\x7f\x7f\x00", 0), token(api.TEnd, "", 30)}},
		{`'\\\"\'"'"'"`, []api.Token{token(api.TString, "\\\"'\"", 0), token(api.TString, "'", 9), token(api.TEnd, "", 12)}},
		{"\"\r\t\x00\x7f\uFFFD𝄞\"", []api.Token{token(api.TString, "\r\t\x00\x7f\uFFFD𝄞", 0), token(api.TEnd, "", 13)}},
	} {
		l, e, at := Tokens(c.s)
		switch {
		case c.l == nil:
			if l != nil || e != api.ErrToken || at != 0 {
				t.Errorf("%q: %v, %d, %d", c.s, l, e, at)
			}
		case e != api.OK || at != 0 || !slices.Equal(l, c.l):
			t.Errorf("%q: %v, %d, %d", c.s, l, e, at)
		}
		checkTokens(t, c.s)
	}
}

func TestP13_1_Faults(t *testing.T) {
	for _, c := range []struct {
		s  string
		at int
	}{
		{"!", 0}, {"a !", 2}, {"a ! =", 2}, {"~", 0}, {"=~~", 2}, {"a@", 1}, {"é", 0}, {"aé", 1}, {"5é", 1}, {"\xff", 0}, {" \x00", 1}, {"\u00a0", 0}, {"\v", 0}, {"a\f", 1},
		{".", 0}, {"..5", 0}, {"a.", 1}, {"a.b", 1}, {".e5", 0}, {"1.2.3", 0}, {"1..", 0}, {"1...2", 0}, {"a 1.5.", 2}, {"1e", 0}, {"1e+", 0}, {"1e+x", 0}, {"1e5e5", 0}, {"1e5.", 0}, {"1e5.5", 0},
		{"0x", 0}, {"0X", 0}, {"0xg", 0}, {"0x1g", 0}, {"0x1.5", 0}, {"0x1_", 0}, {"0x1:", 0}, {"00x1", 0}, {"1x1", 0}, {"0x 1", 0},
		{"1a", 0}, {"1_", 0}, {"1:", 0}, {"1.a", 0}, {"1._", 0}, {"1.:", 0}, {".5m", 0}, {"1.5m", 0}, {"1e5m", 0}, {"0x5m", 0}, {"1Z", 0}, {"1z", 0}, {"1A", 0},
		{"5mm", 0}, {"5m5m", 0}, {"30m1h", 0}, {"5ms5s", 0}, {"5ms5ms", 0}, {"1y1y", 0}, {"5s5m", 0}, {"5m.", 0}, {"5m.5", 0}, {"5m_", 0}, {"5m:", 0}, {"5m5", 0}, {"5ma", 0}, {"5msa", 0}, {"5mz", 0}, {"5mA", 0}, {"5m5x", 0}, {"5M", 0}, {"5m5.5s", 0}, {"a 5mm", 2}, {"5min", 0}, {"5us", 0},
		{`"`, 0}, {`'`, 0}, {`"a`, 0}, {`a"`, 1}, {`"a'`, 0}, {`'a"`, 0}, {`"\`, 0}, {`"\"`, 0}, {`"a\`, 0}, {`"\a"`, 0}, {`"\0"`, 0}, {`"\N"`, 0}, {`"\x"`, 0}, {`"\x4"`, 0}, {`"\x4`, 0}, {`"\x`, 0}, {`"\x4g"`, 0}, {`"\xg4"`, 0}, {`"\x80"`, 0}, {`"\xff"`, 0}, {`"\X41"`, 0}, {`"\u0041"`, 0}, {`"\é"`, 0},
		{"\"\n\"", 0}, {"'\n'", 0}, {"\"a\nb\"", 0}, {"\"\\\n\"", 0}, {"\"\xff\"", 0}, {"\"\xc3\"", 0}, {"\"\xc3", 0}, {"\"\xed\xa0\x80\"", 0}, {"\"\\\xff\"", 0}, {"  \"a", 2}, {"a + 'b\n'", 4},
		// Of two faults the first.
		{"1a !", 0}, {"! 1a", 0}, {"a ! \"", 2}, {"\"a ! 1a", 0}, {"(5mm ! ", 1}, {"é\"", 0}, {"#!\n!\"", 3},
	} {
		if l, e, at := Tokens(c.s); l != nil || e != api.ErrToken || at != c.at {
			t.Errorf("%q: %v, %d, %d, not %d", c.s, l, e, at, c.at)
		}
		checkTokens(t, c.s)
	}
}

// Right behind a number or a duration each byte is held against the words.
func TestP13_1_RightBehind(t *testing.T) {
	for _, ahead := range []string{"1", "1.", ".5", "1e3", "0x1f", "5m", "5ms", "1h5m", "1e", "0x"} {
		for b := range 256 {
			checkTokens(t, ahead+string([]byte{byte(b)}))
			checkTokens(t, ahead+string([]byte{byte(b)})+"5")
			checkTokens(t, ahead+" "+string([]byte{byte(b)}))
		}
	}
	for b := range 256 {
		for c := range 256 {
			checkTokens(t, string([]byte{byte(b), byte(c)}))
			checkTokens(t, string([]byte{'"', '\\', byte(b), byte(c), '"'}))
			checkTokens(t, string([]byte{'\'', '\\', 'x', byte(b), byte(c), '\''}))
		}
	}
}

func TestP13_1_Sizes(t *testing.T) {
	for _, n := range []int{65535, 65536, 65537} {
		for _, s := range []string{rep("a", n), rep(" ", n), rep("1", n), "#" + rep("x", n-1), "\"" + rep("x", n-2) + "\"", rep("!", n), "\"" + rep("x", n-1), rep("9", n-1) + "y", "0x" + rep("f", n-2)} {
			checkTokens(t, s)
		}
	}
	if l, e, at := Tokens(rep("!", 65537)); l != nil || e != api.ErrSize || at != 0 {
		t.Error(e, at)
	}
	if l, e, at := Tokens(rep("a", 65536)); len(l) != 2 || len(l[0].Text) != 65536 || e != api.OK || at != 0 || l[1].At != 65536 {
		t.Error(e, at)
	}
	for _, n := range []int{4094, 4095, 4096, 5000, 32768} {
		l, e, at := Tokens(rep("+ ", n))
		if n <= 4095 && (len(l) != n+1 || e != api.OK || at != 0) || n > 4095 && (l != nil || e != api.ErrLarge || at != 0) {
			t.Error(n, len(l), e, at)
		}
		// A fault is told ahead of too many tokens, wherever it stands.
		if l, e, at := Tokens(rep("+ ", n) + "!"); n < 32768 && (l != nil || e != api.ErrToken || at != 2*n) {
			t.Error(n, len(l), e, at)
		}
	}
}

func TestP13_1_AnyTexts(t *testing.T) {
	for _, a := range pieces {
		for _, b := range pieces {
			checkTokens(t, a+b)
			checkTokens(t, a+" "+b)
		}
	}
	r := rand.New(rand.NewSource(1))
	for range 60000 {
		s := ""
		for range r.Intn(8) {
			s += pieces[r.Intn(len(pieces))]
			if r.Intn(3) > 0 {
				s += " "
			}
		}
		checkTokens(t, s)
		b := make([]byte, r.Intn(8))
		for i := range b {
			b[i] = "0123.eExXmsyhdw_:a\"'\\n#\n =!~<>\xff\xc3\xa9"[r.Intn(33)]
		}
		checkTokens(t, string(b))
	}
}

func TestP13_1_NewMemory(t *testing.T) {
	a, _, _ := Tokens("a + b")
	want := slices.Clone(a)
	for i := range a {
		a[i] = token(9, "x", -1)
	}
	_ = append(a, token(9, "x", -1))
	b, _, _ := Tokens("a + b")
	if !slices.Equal(b, want) {
		t.Error(b)
	}
}

func TestP13_3_Join(t *testing.T) {
	for _, c := range []struct {
		l []api.Token
		s string
		e api.Errno
	}{
		{nil, "", api.OK},
		{[]api.Token{}, "", api.OK},
		{some(api.TEnd, ""), "", api.OK},
		{some(api.TIdent, "a"), "a", api.OK},
		{some(api.TIdent, "a", api.TEnd, ""), "a", api.OK},
		{some(api.TIdent, "a", api.TSign, "=", api.TSign, "=", api.TSpan, "5m", api.TNumber, "0x1F", api.TString, "a\"'\n\xc3\xa9\x00", api.TIdent, "and"), `a = = 5m 0x1F "a\"'\né\x00" and`, api.OK},
		{some(api.TString, ""), `""`, api.OK},
		{some(api.TNumber, "1", api.TNumber, "2"), "1 2", api.OK},
		{some(api.TNumber, "1", api.TIdent, "a"), "1 a", api.OK},
		{some(api.TEnd, "", api.TEnd, ""), "", api.ErrToken},
		{some(api.TEnd, "", api.TIdent, "a"), "", api.ErrToken},
		{some(api.TIdent, "a", api.TEnd, "", api.TEnd, ""), "", api.ErrToken},
		{some(api.TEnd, "a"), "", api.ErrToken},
		{some(api.TIdent, "a", api.TEnd, " "), "", api.ErrToken},
	} {
		if s, e := Join(c.l); s != c.s || e != c.e {
			t.Errorf("%v: %q, %d", c.l, s, e)
		}
	}
}

func TestP13_3_JoinOfEachText(t *testing.T) {
	texts := append([]string{"5m ", " 5m", "1 ", "a ", "a b", "a\xff", "\x80"}, pieces...)
	for _, text := range texts {
		for _, kind := range []int{api.TEnd, api.TIdent, api.TNumber, api.TSpan, api.TString, api.TSign, -1, 6, math.MaxInt, math.MinInt} {
			for _, l := range [][]api.Token{some(kind, text), some(api.TIdent, "a", kind, text), some(kind, text, api.TEnd, ""), some(kind, text, api.TSign, "(")} {
				s, e := Join(l)
				if ws, we := modelJoin(l); s != ws || e != we {
					t.Errorf("%v: %q, %d, not %q, %d", l, s, e, ws, we)
				}
			}
		}
	}
}

func TestP13_3_JoinSizes(t *testing.T) {
	// A text of MaxText bytes, and one more.
	for n, want := range map[int]api.Errno{65536: api.OK, 65537: api.ErrSize} {
		for _, l := range [][]api.Token{some(api.TIdent, rep("a", n)), some(api.TString, rep("a", n-2)), some(api.TString, rep("\n", n/2-1)+rep("a", n%2), api.TEnd, ""), some(api.TIdent, "a", api.TNumber, rep("1", n-2))} {
			if s, e := Join(l); e != want || e == api.OK && len(s) != n || e != api.OK && s != "" {
				t.Error(n, len(s), e)
			}
		}
	}
	// As many tokens as can be, and one more, with their end and without.
	for n, want := range map[int]api.Errno{4095: api.OK, 4096: api.ErrLarge, 4097: api.ErrLarge, 32768: api.ErrLarge, 32769: api.ErrSize} {
		l := slices.Repeat(some(api.TSign, "+"), n)
		for range 2 {
			if s, e := Join(l); e != want || e == api.OK && len(s) != 2*n-1 || e != api.OK && s != "" {
				t.Error(n, len(l), len(s), e)
			}
			l = append(l, token(api.TEnd, "", 0))
		}
	}
	// What can not be is told ahead of what is too long.
	if s, e := Join(append(slices.Repeat(some(api.TIdent, rep("a", 100)), 5000), token(api.TSign, "!", 0))); s != "" || e != api.ErrToken {
		t.Error(e)
	}
	if s, e := Join(slices.Repeat(some(api.TIdent, rep("a", 100)), 5000)); s != "" || e != api.ErrSize {
		t.Error(e)
	}
}

func TestP13_3_Same(t *testing.T) {
	a := some(api.TIdent, "a", api.TNumber, "1", api.TEnd, "")
	for _, c := range []struct {
		a, b []api.Token
		want bool
	}{
		{nil, nil, true}, {nil, []api.Token{}, true}, {nil, some(api.TEnd, ""), false}, {some(api.TEnd, ""), nil, false}, {a, a, true},
		{a, []api.Token{token(api.TIdent, "a", -1), token(api.TNumber, "1", math.MaxInt), token(api.TEnd, "", 0)}, true},
		{a, a[:2], false}, {a[:2], a, false}, {a, some(api.TIdent, "b", api.TNumber, "1", api.TEnd, ""), false}, {a, some(api.TString, "a", api.TNumber, "1", api.TEnd, ""), false},
		{a, some(api.TIdent, "a", api.TNumber, "1", 7, ""), false}, {some(9, "\xff"), some(9, "\xff"), true}, {some(9, "\xff"), some(9, "\xfe"), false},
	} {
		if Same(c.a, c.b) != c.want || Same(c.b, c.a) != c.want {
			t.Error(c.a, c.b, !c.want)
		}
	}
}

func TestP13_3_ListsStay(t *testing.T) {
	l := some(api.TIdent, "a", api.TString, "b", api.TEnd, "")
	want := slices.Clone(l)
	Join(l)
	Join(l[:2])
	Same(l, l[:1])
	if !slices.Equal(l, want) {
		t.Error(l)
	}
}

// anyTokens: tokens that can be.
func anyTokens(r *rand.Rand) []api.Token {
	var can []api.Token
	for _, s := range pieces {
		for kind := api.TIdent; kind <= api.TSign; kind++ {
			if x := token(kind, s, r.Intn(100)-50); modelCanBe(x) {
				can = append(can, x)
			}
		}
	}
	var l []api.Token
	for range r.Intn(12) {
		l = append(l, can[r.Intn(len(can))])
	}
	return l
}

func TestP13_4_AsItWasWritten(t *testing.T) {
	r := rand.New(rand.NewSource(4))
	for range 3000 {
		l := anyTokens(r)
		s, e := Join(l)
		if e != api.OK {
			t.Fatal(l, e)
		}
		again, e, at := Tokens(s)
		if e != api.OK || at != 0 || !Same(again, append(slices.Clone(l), token(api.TEnd, "", 0))) {
			t.Fatal(l, again, e, at)
		}
		if s2, e := Join(again); s2 != s || e != api.OK {
			t.Fatal(s, s2, e)
		}
	}
}

// spelt: how a token may stand in a text.
func spelt(r *rand.Rand, x api.Token) string {
	if x.Kind != api.TString {
		return x.Text
	}
	s, _ := modelQuote(x.Text)
	if r.Intn(2) == 0 && !strings.ContainsAny(x.Text, "'") {
		s = "'" + s[1:len(s)-1] + "'"
	}
	return s
}

func TestP13_5_PlacesRise(t *testing.T) {
	r := rand.New(rand.NewSource(5))
	blanks := []string{" ", "\t", "\n", "\r\n", "# x\n", "#\n ", " \t "}
	for range 3000 {
		l := anyTokens(r)
		s := ""
		var want []int
		for _, x := range l {
			for range 1 + r.Intn(3) {
				s += blanks[r.Intn(len(blanks))]
			}
			want = append(want, len(s))
			s += spelt(r, x)
		}
		got, e, _ := Tokens(s)
		if e != api.OK || len(got) != len(l)+1 || got[len(l)].At != len(s) {
			t.Fatalf("%q: %v, %d", s, got, e)
		}
		for i, at := range want {
			if got[i].At != at {
				t.Fatalf("%q: %v, not %v", s, got, want)
			}
		}
	}
}

func TestP13_6_BlanksChangeNothing(t *testing.T) {
	r := rand.New(rand.NewSource(6))
	for range 3000 {
		l := anyTokens(r)
		a, b := "", ""
		for _, x := range l {
			a += " " + spelt(r, x)
			b += rep("\n", 1+r.Intn(3)) + "#\xff\"\n\t" + spelt(r, x) + rep("\r", r.Intn(3))
		}
		x, e, _ := Tokens(a)
		y, f, _ := Tokens(b)
		if e != api.OK || f != api.OK || !Same(x, y) {
			t.Fatalf("%q, %q: %v, %v", a, b, x, y)
		}
	}
}

func FuzzLex(f *testing.F) {
	for _, s := range pieces {
		f.Add(s, s)
	}
	f.Add(`rate(a:b{x=~"c.*"}[5m]) > 1.5e3`, "1h30m")
	f.Fuzz(func(t *testing.T, a, b string) {
		checkTokens(t, a)
		checkTokens(t, a+b)
		if len(a) < 700 {
			checkNumber(t, a)
		}
		checkSpan(t, a)
		checkQuote(t, a)
		if l, e, _ := Tokens(a); e == api.OK {
			s, e := Join(l)
			if again, _, _ := Tokens(s); e == api.OK && !Same(l, again) {
				t.Fatal(l, s, again)
			}
		}
	})
}
