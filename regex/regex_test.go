package regex

import (
	"math/rand"
	"strings"
	"sync"
	"testing"
	"time"
	"unicode/utf8"

	"tocsin/api"
)

func times(s string, n int) string { return strings.Repeat(s, n) }

// of: an expression that must be right.
func of(t *testing.T, s string) *Regex {
	t.Helper()
	r, e, at := Compile(s)
	if r == nil || e != api.OK || at != 0 {
		t.Fatalf("Compile(%q): %d, %d", s, e, at)
	}
	return r
}

type refusal struct {
	s  string
	e  api.Errno
	at int
}

func wrong(s string, at int) refusal { return refusal{s, api.ErrRegex, at} }

func refuses(t *testing.T, l ...refusal) {
	t.Helper()
	for _, c := range l {
		if r, e, at := Compile(c.s); r != nil || e != c.e || at != c.at {
			t.Errorf("Compile(%q): %d, %d, not %d, %d", c.s, e, at, c.e, c.at)
		}
		// The model says so too: what is held against it elsewhere is held against these.
		if _, e, at := modelRead(c.s); e != c.e || at != c.at {
			t.Errorf("the model of %q: %d, %d, not %d, %d", c.s, e, at, c.e, c.at)
		}
	}
}

func TestExamples(t *testing.T) {
	for _, c := range []struct {
		e, s string
		want bool
	}{
		{"a(b|c)*d", "ad", true},
		{"a(b|c)*d", "abccbd", true},
		{"a(b|c)*d", "abe", false},
		{"[^0-9]+", "é", true},
		{"[^0-9]+", "1", false},
		{".*", "a\nb", false},
		{`(.|\n)*`, "a\nb", true},
		{"a{2,3}", "aa", true},
		{"a{2,3}", "aaa", true},
		{"a{2,3}", "a", false},
		{"a{2,3}", "aaaa", false},
	} {
		if of(t, c.e).Match(c.s) != c.want {
			t.Errorf("%q, %q: not %v", c.e, c.s, c.want)
		}
	}
	refuses(t,
		wrong("a**", 2),
		wrong("(", 1),
		wrong("[b-a]", 1),
		wrong("a{3,2}", 1),
		wrong("^a", 0),
		refusal{"((a{99}){99})", api.ErrLarge, 0},
	)
}

func TestP5_1_Sizes(t *testing.T) {
	for _, s := range []string{"", times("a", 255), times("a", 256), times("é", 128), times("\xff", 256), times("|", 256), "[" + times("a", 254) + "]", times(`\.`, 128), times("a?", 128)} {
		of(t, s)
	}
	refuses(t,
		refusal{times("a", 257), api.ErrSize, 0},
		refusal{times("(", 257), api.ErrSize, 0},
		refusal{times("a", 70000), api.ErrSize, 0},
		refusal{times("é", 128) + "a", api.ErrSize, 0},
		refusal{times(`\`, 257), api.ErrSize, 0},
		refusal{"(a{99}){99}" + times("a", 246), api.ErrSize, 0},
		wrong(times("a", 255)+"(", 256),
		wrong(times("a", 255)+")", 255),
	)
}

// Faults at which the text does not end: the place is that of the byte, but of \, ranges and braces.
func TestP5_1_Faults(t *testing.T) {
	refuses(t,
		// What stands for something else, and has nothing to stand for.
		wrong(")", 0), wrong("a)", 1), wrong("(a))", 3), wrong("é)", 2), wrong("a|)", 2),
		wrong("]", 0), wrong("[a]]", 3), wrong("}", 0), wrong("a{1}}", 4), wrong("a}", 1),
		wrong("^", 0), wrong("a^", 1), wrong("$", 0), wrong("a$", 1), wrong("(^a)", 1), wrong("a|$", 2),
		// A repeat with nothing ahead of it.
		wrong("*", 0), wrong("+", 0), wrong("?", 0), wrong("{2}", 0), wrong("{", 0), wrong("{x", 0),
		wrong("(*a)", 1), wrong("(+", 1), wrong("(?:?)", 3), wrong("({2})", 1), wrong("a|*", 2), wrong("|+", 1), wrong("a|{1}", 2), wrong("(a|?)", 3),
		// Two repeats behind one another.
		wrong("a*+", 2), wrong("a+?", 2), wrong("a??", 2), wrong("a*{2}", 2), wrong("a*{", 2), wrong("a{2}*", 4), wrong("a{2}{3}", 4), wrong("a{2,}?", 5), wrong("a{2,3}+", 6), wrong("(a*)**", 5), wrong("é?*", 3),
		// What begins as (?: and goes on otherwise.
		wrong("(?a)", 2), wrong("(?)", 2), wrong("(??:a)", 2), wrong("((?=a))", 3), wrong("(?\xff", 2),
		// A \ and what can not stand behind it.
		wrong(`\a`, 0), wrong(`\1`, 0), wrong(`\ `, 0), wrong("\\é", 0), wrong("\\\xff", 0), wrong("\\\n", 0), wrong(`ab\b`, 2), wrong(`(\N)`, 1), wrong(`\\\_`, 2), wrong(`[\q]`, 1), wrong(`[a\x]`, 2), wrong(`[a-c\z`, 4), wrong(`[^\,]`, 2), wrong(`\"`, 0), wrong(`\:`, 0),
		// Classes of nothing, and what can not stand in them where it stands.
		wrong("[]", 1), wrong("[]a]", 1), wrong("[^]", 2), wrong("[^]a]", 2), wrong("[^^]", 2), wrong("[^^a]", 2), wrong("[^^", 2), wrong("[]", 1), wrong("[[]]", 3),
		wrong("[a-b-c]", 4), wrong("[ab-c-d]", 5), wrong(`[\d-z]`, 3), wrong(`[\d--]`, 3), wrong(`[a\S-b]`, 4), wrong("[a-b--]", 4), wrong("[a-b-\\n]", 4), wrong("[a-b-c", 4),
		// Ranges that fall.
		wrong("[z-a]", 1), wrong("[xb-a]", 2), wrong("[^b-a]", 2), wrong("[é-a]", 1), wrong("[a--]", 1), wrong("[a-[]", 1), wrong(`[a-\]]`, 1), wrong(`[\]-\[]`, 1), wrong("[b-a", 1), wrong("[x-z9-0]", 4), wrong("[\xff-é]", 1), wrong(`[ab\--\+]`, 3), wrong("[b-^]", 1),
		// Ranges whose end is neither a rune nor an escaped sign.
		wrong(`[a-\d]`, 1), wrong(`[a-\W]`, 1), wrong(`[xy\t-\n]`, 3), wrong(`[\t-\r]`, 1), wrong(`[a-\q]`, 1), wrong(`[a-\z`, 1), wrong(`[--\s]`, 1), wrong("[a-\\é]", 1),
		// Braces that go on otherwise, or whose numbers can not be.
		wrong("a{}", 1), wrong("a{,}", 1), wrong("a{,2}", 1), wrong("a{x}", 1), wrong("a{1x}", 1), wrong("a{1,x}", 1), wrong("a{-1}", 1), wrong("a{ 1}", 1), wrong("a{1 }", 1), wrong("a{1, 2}", 1), wrong("a{1,2,3}", 1), wrong("a{1,2,}", 1), wrong("a{1{", 1), wrong("a{1)", 1), wrong("é{\xff}", 2), wrong("(a{2|})", 2),
		wrong("a{100}", 1), wrong("a{000}", 1), wrong("a{1,100}", 1), wrong("a{100,}", 1), wrong("a{123", 1), wrong("a{1,123", 1), wrong("a{x", 1), wrong("a{,", 1), wrong("a{1,2x", 1), wrong("a{1,2,", 1),
		wrong("a{1,0}", 1), wrong("a{99,98}", 1), wrong("bc{3,02}", 2), wrong("a{10,9}", 1),
		// The first one from the left is told.
		wrong("a**)", 2), wrong(")(", 0), wrong("[b-a]**", 1), wrong(`\a[b-a]`, 0), wrong("(a{2,1}", 2), wrong("a{2,1}[", 1),
	)
}

// Texts that end too early are told by their length.
func TestP5_1_EndsTooEarly(t *testing.T) {
	for _, s := range []string{
		"(", "(a", "(a|", "(a|b", "((a)", "(?", "(?:", "(?:a", "a(b)(", "(()", "é(",
		"\\", "a\\", "(\\", "[\\", "[a\\", "[a-\\", "[^\\", "é\\", "a|\\", "\\\\\\",
		"[", "[^", "[a", "[^a", "[-", "[a-", "[a-b", "[a-b-", "[\\d", "[\\d-", "[--", "[---", "[^-", "[[", "[(", "[a^", "a[b]c[",
		"a{", "a{1", "a{12", "a{1,", "a{12,", "a{1,2", "a{1,23", "a{3,2", "a{33,22", "a{33,02", "(a){2", "é{9", ".{0",
	} {
		refuses(t, wrong(s, len(s)))
	}
	// Cut at every place, these are right, or end too early.
	for _, s := range []string{
		`a(?:b|[^c\-d-f]{1,23}\n)*\.[-x-]+`,
		`((a{3,12})?|\w+(é{2,}[\d\]-])*)\\|[^a-z]{12}`,
		`(?:(?:(?:)))|[--/]{0,1}|[a-a]*`,
	} {
		for n := range len(s) + 1 {
			cut := s[:n]
			if n > 0 && !utf8.ValidString(cut) {
				continue
			}
			if _, e, at := Compile(cut); e != api.OK && (e != api.ErrRegex || at != n) {
				t.Errorf("Compile(%q): %d, %d, not %d", cut, e, at, n)
			}
			sameCompile(t, cut)
		}
	}
}

// Each byte alone, behind a \, behind a thing, in a class, and as the end of a range.
func TestP5_1_EveryByte(t *testing.T) {
	for c := range 256 {
		b := string([]byte{byte(c)})
		for _, s := range []string{b, `\` + b, "a" + b, "a*" + b, "(" + b + ")", "(?" + b, "[" + b + "]", "[^" + b + "]", "[a" + b + "]", "[a" + b + "z]", `[\` + b + "]", `[\` + b + "-~]", "[\x00-" + b + "]", "[\x00-\\" + b + "]", "a{" + b + "}", "a{1" + b + "}", "a{1," + b + "}", "a{" + b, `\d` + b} {
			sameCompile(t, s, "", "a", b, "ab", "\x00", "z")
		}
	}
}

func TestP5_1_Right(t *testing.T) {
	for _, s := range []string{
		"", "|", "||", "()", "(|)", "(?:)", "()*", "(|a)+", "a||b", "(())", "(a)(b)", "a-b/c", "\n", ":,=<>!\"'#%&@`~;",
		"[-]", "[^-]", "[--]", "[---]", "[----]", "[-a]", "[a-]", "[^a-]", "[a-b-]", "[--/]", "[+--]", `[\d-]`, `[\--a]`, `[a^]`, `[\^a]`, "[a^-z]", "[.*+?(){}|$[]", `[\]]`, `[\\]`, `[!-\]]`, "[!-[]", "[!--]", "[ -~]", "[a-a]", "[\n-\r]", `[\n-a]`, `[\t-a]`, "[aa]", "[^a^]", "[\x00-\U0010FFFF]",
		"a{0}", "a{00}", "a{0,0}", "a{0,}", "a{1,1}", "a{01,1}", "a{09,10}", "a{99}", "a{99,}", "a{0,99}", ".{2}", "[a]{2}", "(a){2}", `\d{2}`, "é{2}",
		`\\\.\[\]\(\)\{\}\*\+\?\|\^\$\-\/`, `\n\r\t\d\w\s\D\W\S`,
	} {
		of(t, s)
		sameCompile(t, s, "", "a", "-", "^", "é", "aa", "a-b/c", "\n")
	}
}

func TestP5_1_Deep(t *testing.T) {
	for _, open := range []string{"(", "(?:"} {
		most := times(open, 50)
		if len(most)+50 <= 256 {
			of(t, most+times(")", 50))
			of(t, most+"a"+times(")", 50)+open+")")
			of(t, most+"a)"+open+"b)"+times(")", 49))
		}
		refuses(t,
			wrong(most, len(most)),
			refusal{most + open, api.ErrDeep, len(most)},
			refusal{most + "(", api.ErrDeep, len(most)},
			refusal{most + "(?", api.ErrDeep, len(most)},
			refusal{most + "(*", api.ErrDeep, len(most)},
			refusal{most + "ab(", api.ErrDeep, len(most) + 2},
			refusal{most + "|[(]\\((", api.ErrDeep, len(most) + 6},
			refusal{most + ")(()", api.ErrDeep, len(most) + 2},
			// The first fault from the left is told, whichever it is.
			wrong(most+"*(", len(most)),
			wrong("*"+most+"(", 0),
			refusal{most + "(*" + ")", api.ErrDeep, len(most)},
		)
	}
	refuses(t, refusal{times("(", 51) + "a" + times(")", 51), api.ErrDeep, 50})
	refuses(t, refusal{times("(", 200), api.ErrDeep, 50})
}

func TestP5_1_Large(t *testing.T) {
	for s, n := range map[string]int{
		"(a{99}){19}a{98}":             2000,
		"(a{99}){19}" + times("a", 99): 2000,
		"(a{43}){45}" + times("b", 19): 2000,
		"((a{99}){99}){0}":             1,
		"((a{99}){99}){0}(b{99}){19}":  1902,
		"(((((((((((a{99}){99}){99}){99}){99}){99}){99}){99}){99}){99}){0}){99}": 100,
	} {
		if got := of(t, s).States(); got != n {
			t.Errorf("States of %q: %d, not %d", s, got, n)
		}
	}
	tower := "a"
	for len(tower) < 250 {
		tower = "(" + tower + "){99}"
	}
	refuses(t,
		refusal{"(a{99}){20}", api.ErrLarge, 0},
		refusal{"(a{99}){19}a{99}", api.ErrLarge, 0},
		refusal{"(a{99}){19}a{98}|b", api.ErrLarge, 0},
		refusal{"((a{99}){19}a{98})?", api.ErrLarge, 0},
		refusal{"(a{99}){19,}", api.ErrLarge, 0},
		refusal{"(a{99}){0,20}", api.ErrLarge, 0},
		refusal{tower, api.ErrLarge, 0},
		// Faults of the text go ahead, wherever they stand.
		wrong("(a{99}){99}(", 12),
		wrong("(a{99}){99})", 11),
		refusal{"(a{99}){99}" + times("(", 51), api.ErrDeep, 61},
	)
}

func TestP5_2_States(t *testing.T) {
	for s, n := range map[string]int{
		"": 0, "()": 0, "|": 0, "(?:|())": 0, "a": 1, "é": 1, ".": 1, `\.`: 1, `\n`: 1, `\d`: 1, `\W`: 1, "[abc]": 1, "[^a-z]": 1, "\xff": 1,
		"abc": 3, "a|b": 2, "a|": 1, "(ab|c)d": 4, "(?:ab)": 2,
		"a*": 2, "a+": 2, "a?": 2, "(ab)*": 3, "(a*b)+": 4, "()*": 1, "(|)?": 1,
		"a{0}": 1, "a{1}": 2, "a{5}": 6, "(ab){5}": 11, "a{0,0}": 1, "a{2,5}": 6, "(ab){2,5}": 11, "a{0,}": 2, "a{1,}": 3, "a{5,}": 7, "(ab){5,}": 13, "(){99}": 1,
		"(a{2}b){3}": 13, "(a{2,}|b?){0,4}": 25, "a{99}": 100, "a{0,99}": 100, "a{99,}": 101,
	} {
		if got := of(t, s).States(); got != n {
			t.Errorf("States of %q: %d, not %d", s, got, n)
		}
	}
}

func TestP5_2_Forms(t *testing.T) {
	for e, c := range map[string]struct{ yes, no []string }{
		"":              {[]string{""}, []string{"a", "\n", "\x00"}},
		"a":             {[]string{"a"}, []string{"", "A", "aa", "ab", "ba", "b"}},
		"é":             {[]string{"é"}, []string{"e", "\xc3", "éé"}},
		".":             {[]string{"a", "é", "\r", "\x00", "\xff", "\U0010FFFF"}, []string{"", "\n", "ab", "a\n"}},
		`\.`:            {[]string{"."}, []string{"a", `\.`, ""}},
		`\\`:            {[]string{`\`}, []string{`\\`, ""}},
		`\-\/`:          {[]string{"-/"}, []string{"-", "/-"}},
		`-/`:            {[]string{"-/"}, []string{`\-\/`}},
		`\n\r\t`:        {[]string{"\n\r\t"}, []string{"nrt", "\n\r"}},
		`\d`:            {[]string{"0", "5", "9"}, []string{"", "a", "/", ":", "d", "٣", "00"}},
		`\D`:            {[]string{"a", "/", ":", "\n", "٣", "\xff"}, []string{"", "0", "9", "ab"}},
		`\w`:            {[]string{"a", "z", "A", "Z", "0", "9", "_"}, []string{"", "-", "@", "[", "`", "{", "é", "\n"}},
		`\W`:            {[]string{"-", "@", "[", "`", "{", "é", "\n"}, []string{"", "a", "_", "0"}},
		`\s`:            {[]string{"\t", "\n", "\f", "\r", " "}, []string{"", "\v", "a", "\u00a0", "\u0085"}},
		`\S`:            {[]string{"\v", "a", "\u00a0"}, []string{"", "\t", "\n", "\f", "\r", " "}},
		"[abc]":         {[]string{"a", "b", "c"}, []string{"", "d", "ab", "[abc]"}},
		"[^abc]":        {[]string{"d", "\n", "é", "^", "\xff"}, []string{"", "a", "b", "c", "de"}},
		"[a-c]":         {[]string{"a", "b", "c"}, []string{"d", "-", "`"}},
		"[^a-c]":        {[]string{"d", "-", "\n"}, []string{"a", "b", "c"}},
		"[a-a]":         {[]string{"a"}, []string{"-", "b"}},
		"[-a]":          {[]string{"-", "a"}, []string{"b", "."}},
		"[a-]":          {[]string{"-", "a"}, []string{"b", "]"}},
		"[^-a]":         {[]string{"b", "^"}, []string{"-", "a"}},
		"[--/]":         {[]string{"-", ".", "/"}, []string{",", "0"}},
		"[+--]":         {[]string{"+", ",", "-"}, []string{"*", "."}},
		"[a-c-]":        {[]string{"a", "b", "c", "-"}, []string{"d"}},
		`[\--/]`:        {[]string{"-", ".", "/"}, []string{",", "0", `\`}},
		`[!-\-]`:        {[]string{"!", "*", "-"}, []string{".", " ", `\`}},
		`[\d-]`:         {[]string{"0", "9", "-"}, []string{"d", `\`}},
		`[\n-\/]`:       {[]string{"\n", " ", "/"}, []string{"\t", "0"}},
		`[\w\s]`:        {[]string{"a", "_", " ", "\n"}, []string{"-", "é"}},
		`[^\D]`:         {[]string{"0", "9"}, []string{"a", "\n"}},
		`[\D\d]`:        {[]string{"0", "a", "\n", "\xff"}, []string{"", "00"}},
		`[\]\\]`:        {[]string{"]", `\`}, []string{"[", `\]`}},
		"[.*(|)]":       {[]string{".", "*", "(", "|", ")"}, []string{"a", "", ".*"}},
		"[a^]":          {[]string{"a", "^"}, []string{"b"}},
		"[à-é]":         {[]string{"à", "ç", "é"}, []string{"ê", "a", "\xc3"}},
		"(a)":           {[]string{"a"}, []string{"", "(a)"}},
		"(?:a)":         {[]string{"a"}, []string{"", "?:a", ":a"}},
		"()":            {[]string{""}, []string{"()", "a"}},
		"a|b":           {[]string{"a", "b"}, []string{"", "ab", "a|b"}},
		"a|":            {[]string{"a", ""}, []string{"aa"}},
		"|a":            {[]string{"a", ""}, []string{"aa"}},
		"ab|cd":         {[]string{"ab", "cd"}, []string{"abd", "acd", "abcd"}},
		"a(b|c)d":       {[]string{"abd", "acd"}, []string{"ad", "abcd"}},
		"ab*":           {[]string{"a", "ab", "abbb"}, []string{"", "abab", "b"}},
		"(ab)*":         {[]string{"", "ab", "abab"}, []string{"a", "aba", "abb"}},
		"a|b*":          {[]string{"a", "", "bb"}, []string{"aa", "ab"}},
		"a+":            {[]string{"a", "aaa"}, []string{"", "ab"}},
		"(a|b)+":        {[]string{"a", "abba"}, []string{"", "abc"}},
		"a?":            {[]string{"", "a"}, []string{"aa", "b"}},
		"(a*)*":         {[]string{"", "a", "aaaa"}, []string{"b", "aab"}},
		"(a*)+":         {[]string{"", "a", "aaaa"}, []string{"b", "aab"}},
		"(a?){3}":       {[]string{"", "a", "aa", "aaa"}, []string{"aaaa"}},
		"(a|ab)(c|bcd)": {[]string{"ac", "abcd", "abc", "abbcd"}, []string{"acd", "abbc"}},
		"a{0}":          {[]string{""}, []string{"a"}},
		"a{0,0}b":       {[]string{"b"}, []string{"ab", ""}},
		"a{1}":          {[]string{"a"}, []string{"", "aa"}},
		"a{3}":          {[]string{"aaa"}, []string{"", "aa", "aaaa"}},
		"a{0,}":         {[]string{"", "a", "aaaa"}, []string{"b"}},
		"a{1,}":         {[]string{"a", "aaaa"}, []string{"", "b"}},
		"a{3,}":         {[]string{"aaa", "aaaaaa"}, []string{"", "aa", "aaab"}},
		"a{0,2}":        {[]string{"", "a", "aa"}, []string{"aaa"}},
		"a{2,2}":        {[]string{"aa"}, []string{"a", "aaa"}},
		"(ab){1,2}":     {[]string{"ab", "abab"}, []string{"", "aba", "ababab"}},
		"(a{2}){2,3}":   {[]string{"aaaa", "aaaaaa"}, []string{"aa", "aaaaa", "aaaaaaaa"}},
		"a{99}":         {[]string{times("a", 99)}, []string{times("a", 98), times("a", 100)}},
		"a{98,99}":      {[]string{times("a", 98), times("a", 99)}, []string{times("a", 97), times("a", 100)}},
		"a{99,}":        {[]string{times("a", 99), times("a", 1000)}, []string{times("a", 98)}},
		"(){5}":         {[]string{""}, []string{"a"}},
		"(|a){2}":       {[]string{"", "a", "aa"}, []string{"aaa"}},
	} {
		r := of(t, e)
		for _, s := range c.yes {
			if !r.Match(s) {
				t.Errorf("%q does not match %.20q", e, s)
			}
		}
		for _, s := range c.no {
			if r.Match(s) {
				t.Errorf("%q matches %.20q", e, s)
			}
		}
		sameCompile(t, e, append(c.yes, c.no...)...)
	}
}

// Each rune against each set.
func TestP5_2_EveryRune(t *testing.T) {
	among := func(s string) func(rune) bool {
		return func(r rune) bool { return strings.ContainsRune(s, r) }
	}
	words := among("abcdefghijklmnopqrstuvwxyzABCDEFGHIJKLMNOPQRSTUVWXYZ0123456789_")
	for e, in := range map[string]func(rune) bool{
		".":            func(r rune) bool { return r != 10 },
		`\d`:           among("0123456789"),
		`[^\d]`:        func(r rune) bool { return !among("0123456789")(r) },
		`\w`:           words,
		`\W`:           func(r rune) bool { return !words(r) },
		`\s`:           among("\t\n\f\r "),
		"[a-é]":        func(r rune) bool { return r >= 'a' && r <= 'é' },
		"[^\uFFFD]":    func(r rune) bool { return r != 0xFFFD },
		"[-\\]^]":      among("-]^"),
		"\uFFFD":       func(r rune) bool { return r == 0xFFFD },
		"[\xff]":       func(r rune) bool { return r == 0xFFFD },
		"[a-\xff]":     func(r rune) bool { return r >= 'a' && r <= 0xFFFD },
		"[^\x01-\xff]": func(r rune) bool { return r < 1 || r > 0xFFFD },
	} {
		x := of(t, e)
		for r := rune(0); r <= utf8.MaxRune; r++ {
			if r == 0x3000 {
				r = 0xFF00
			}
			if r == 0x10100 {
				r = 0x10FF00
			}
			if x.Match(string(r)) != in(r) {
				t.Fatalf("%q: %x", e, r)
			}
		}
	}
}

// A byte that is no right UTF-8 is a rune of its own, in the expression and in the text.
func TestP5_2_WrongUtf(t *testing.T) {
	for _, c := range []struct {
		e, s string
		want bool
	}{
		{"\xff", "\xff", true}, {"\xff", "\xfe", true}, {"\xff", "\uFFFD", true}, {"\uFFFD", "\xff", true},
		{"\xff", "\xff\xff", false}, {"\xff\xff", "\xff\xfe", true}, {"..", "\xc3\xc3", true}, {".", "\xc3\xc3", false},
		{"...", "\xed\xa0\x80", true}, {".", "\xed\xa0\x80", false}, {"....", "\xf4\x90\x80\x80", true}, {"..", "\xc0\x80", true},
		{"\xed\xa0\x80", "\xff\xff\xff", true}, {".", "é", true}, {"..", "é", false}, {".", "\xc3", true}, {"\xc3", "é", false}, {"\xc3\xa9", "é", true},
		{"[^a]", "\xff", true}, {"[\xff]{2}", "\xfe\xfd", true}, {"a\xff?b", "ab", true}, {"a\xff?b", "a\x80b", true}, {`\W\S\D`, "\xff\xfe\x80", true}, {"é\xc3", "é\xff", true},
	} {
		if of(t, c.e).Match(c.s) != c.want {
			t.Errorf("%q, %q: not %v", c.e, c.s, c.want)
		}
		sameCompile(t, c.e, c.s)
	}
}

// Texts against nested repeats: each would take for ever if it were tried way by way.
func TestP5_2_EndsSoon(t *testing.T) {
	long := times("a", 100000)
	begun := time.Now()
	for _, c := range []struct {
		e, s string
		want bool
	}{
		{"(a*)*b", long, false},
		{"((a*)*)*", long, true},
		{"((((a+)+)+)+)+b", long, false},
		{"(a|a)*b", long, false},
		{"(a|aa)+", long, true},
		{"(a|b|ab)*c", times("ab", 50000), false},
		{"(a?){40}a{40}", times("a", 40), true},
		{"(a?){99}a{99}", times("a", 98), false},
		{"(a*){40}b", long, false},
		{"((a{0,9}){0,9}){0,9}", times("a", 729), true},
		{"((a{0,9}){0,9}){0,9}", times("a", 730), false},
		{"(.*a){40}", times("a", 10000), true},
		{"(.*){30}x", times("é", 20000), false},
		{"((|a|aa)*)*b", times("a", 20000), false},
		{"(((){99}){99}|a)*", long, true},
		{".*.*.*.*.*.*.*.*b", times("a", 20000), false},
		{"(a{1,43}){1,45}", times("a", 1935), true},
		{"(a{1,43}){1,45}", times("a", 1936), false},
		{"([ab0-9x-z]{43}){45}", times("a", 1935), true},
		{times("(", 50) + "a" + times(")*", 50), long, true},
		{times("(", 50) + "a" + times(")+", 50) + "b", long, false},
		{times("(", 50) + "a" + times(")?", 50), "a", true},
		{times("|", 255) + "a", "a", true},
		{"((" + times("|", 200) + "a){44}){44}", times("a", 1936), true},
		{"((" + times("()", 100) + "a){44}){44}", times("a", 1936), true},
	} {
		if of(t, c.e).Match(c.s) != c.want {
			t.Errorf("%q, %.5q: not %v", c.e, c.s, c.want)
		}
	}
	if took := time.Since(begun); took > 30*time.Second {
		t.Error("took", took)
	}
}

// An expression never has many more steps than states, so that a text takes no longer than both lengths say.
func TestP5_2_FewSteps(t *testing.T) {
	r := rand.New(rand.NewSource(54))
	l := []string{"((" + times("|", 200) + "a){44}){44}", "((" + times("()", 100) + "a){44}){44}", times("(", 50) + "a" + times(")+", 50), "((a|){43}|){43}", "(((){99}){99}){9}", "(((){0,99}){44}){40}", "((|()){0,99}){99}"}
	for range 5000 {
		l = append(l, randomExpression(r, 4))
	}
	for _, s := range l {
		if x, e, _ := Compile(s); e == api.OK && len(x.steps) > 4*x.States()+1 {
			t.Errorf("%q: %d steps of %d states", s, len(x.steps), x.States())
		}
	}
}

// A matcher asks its expression from several goroutines: nothing of it changes.
func TestP5_2_ByManyAtOnce(t *testing.T) {
	r := of(t, "(a|b){2,9}c?")
	texts := []string{"", "a", "ab", "abc", "ababababa", "ababababab", "abx", "aac"}
	want := make([]bool, len(texts))
	for i, s := range texts {
		want[i] = r.Match(s)
	}
	var all sync.WaitGroup
	for n := range 32 {
		all.Add(1)
		go func() {
			defer all.Done()
			for k := range 200 {
				i := (n + k) % len(texts)
				if r.Match(texts[i]) != want[i] {
					t.Error(texts[i])
				}
			}
		}()
	}
	all.Wait()
}

func TestP5_3_Literal(t *testing.T) {
	for s, want := range map[string]string{
		"": "", "a": "a", "abc": "abc", "é€": "é€", "-/": "-/", `\-\/`: "-/", `\n\r\t`: "\n\r\t", `a\nb`: "a\nb", `\\\.\[\]\(\)\{\}\*\+\?\|\^\$`: `\.[](){}*+?|^$`, "a\nb": "a\nb", "\xff": "\uFFFD", "a\xc3": "a\uFFFD", ":,": ":,", times("a", 256): times("a", 256),
	} {
		r := of(t, s)
		if got, ok := r.Literal(); got != want || !ok {
			t.Errorf("Literal of %q: %q, %v, not %q", s, got, ok, want)
		}
		if !r.Match(want) {
			t.Errorf("%q does not match %q", s, want)
		}
	}
	for _, s := range []string{"ab.", "ab" + `\d`, `\D`, `\w`, `\W`, `\s`, `\S`, "ab[c]", "[c]", "[^c]", "(ab)", "ab(c)", "()", "(?:)", "a()", "ab|c", "|", "a|a", "ab*", "a+", "a?", "a{1}", "a{1,1}b", "a{0}", `\.*`, `\n?`} {
		if got, ok := of(t, s).Literal(); got != "" || ok {
			t.Errorf("Literal of %q: %q, %v", s, got, ok)
		}
	}
}

func TestP5_3_Prefix(t *testing.T) {
	for s, want := range map[string]string{
		"": "", "a": "a", "abc": "abc", "é€": "é€", `a\.b\-c\/`: "a.b-c/", `\\\.\[\]\(\)\{\}\*\+\?\|\^\$`: `\.[](){}*+?|^$`, "\xffa": "\uFFFDa", "a\nb": "a\nb",
		// Ahead of each kind of thing that is none.
		"ab.c": "ab", ".a": "", `ab\dc`: "ab", `ab\Dc`: "ab", `ab\wc`: "ab", `ab\Wc`: "ab", `ab\sc`: "ab", `ab\Sc`: "ab", "ab[c]d": "ab", "ab[^c]d": "ab", "[a]b": "",
		"ab(c)d": "ab", "(ab)": "", "ab(?:c)": "ab", "ab()c": "ab", "()ab": "", "ab(c|d)": "ab", "(a|b)c": "",
		`ab\nc`: "ab", `ab\rc`: "ab", `ab\tc`: "ab", `\na`: "",
		// Ahead of what has a repeat behind it.
		"abc*": "ab", "abc+": "ab", "abc?": "ab", "abc{2}": "ab", "abc{2,}": "ab", "abc{1,2}d": "ab", "abc{0}": "ab", "a*": "", "a*b": "", `ab\.*`: "ab", `ab\.{2}`: "ab", "ab(c)*": "ab", "ab.*": "ab", "abé?": "ab",
		// A | outside of parentheses.
		"a|b": "", "ab|ac": "", "ab|ab": "", "|ab": "", "ab|": "", "ab(c)|d": "",
		`ab\|c`: "ab|c", "ab[|]c": "ab", "ab(|)": "ab",
	} {
		if got := of(t, s).Prefix(); got != want {
			t.Errorf("Prefix of %q: %q, not %q", s, got, want)
		}
	}
}

func TestP5_3_Quote(t *testing.T) {
	for s, want := range map[string]string{
		"": "", "abc": "abc", "a.b": `a\.b`, `\.[](){}*+?|^$`: `\\\.\[\]\(\)\{\}\*\+\?\|\^\$`, "-/": "-/", "\n\r\t": `\n\r\t`, "\v\f\x00": "\v\f\x00", "é€": "é€", "\xff": "\uFFFD", "a\xc3\xc3b": "a\uFFFD\uFFFDb", "\uFFFD": "\uFFFD", " \"'#": " \"'#",
	} {
		if got := Quote(s); got != want {
			t.Errorf("Quote(%q): %q, not %q", s, got, want)
		}
	}
	// Every sign: just those of the first row have a \ ahead.
	for c := range 128 {
		b := string([]byte{byte(c)})
		want := b
		switch {
		case strings.Contains(modelSigns, b):
			want = `\` + b
		case c == 10:
			want = `\n`
		case c == 13:
			want = `\r`
		case c == 9:
			want = `\t`
		}
		if got := Quote(b); got != want {
			t.Errorf("Quote(%q): %q, not %q", b, got, want)
		}
	}
	// A text of any length is quoted, though no longer one is compiled.
	if got := Quote(times("*", 100000)); got != times(`\*`, 100000) {
		t.Error("a long text")
	}
}

func TestP5_3_Nil(t *testing.T) {
	// One that Compile has not made is as none.
	for _, r := range []*Regex{nil, {}} {
		for _, s := range []string{"", "a", "\xff", times("a", 1000)} {
			if r.Match(s) {
				t.Error("Match", s)
			}
		}
		if r.States() != 0 || r.Prefix() != "" {
			t.Error(r.States(), r.Prefix())
		}
		if s, ok := r.Literal(); s != "" || ok {
			t.Error(s, ok)
		}
	}
}

// anyTwo: two right expressions, and texts.
func anyTwo(r *rand.Rand) (string, string, []string) {
	for {
		e, f := randomExpression(r, 2), randomExpression(r, 2)
		if len(e)+len(f) < 200 {
			return e, f, randomTexts(r, 6)
		}
	}
}

func TestP5_4_Algebra(t *testing.T) {
	rnd := rand.New(rand.NewSource(55))
	for range 3000 {
		e, f, texts := anyTwo(rnd)
		x, y := of(t, e), of(t, f)
		either, group, plain, both := of(t, e+"|"+f), of(t, "("+e+")"), of(t, "(?:"+e+")"), of(t, "("+e+")("+f+")")
		star, plus, maybe := of(t, "("+e+")*"), of(t, "("+e+")+"), of(t, "("+e+")?")
		for _, s := range texts {
			if either.Match(s) != (x.Match(s) || y.Match(s)) {
				t.Fatalf("%q | %q of %q", e, f, s)
			}
			if group.Match(s) != x.Match(s) || plain.Match(s) != x.Match(s) {
				t.Fatalf("(%q) of %q", e, s)
			}
			cut := false
			for i := range s {
				cut = cut || x.Match(s[:i]) && y.Match(s[i:])
			}
			if both.Match(s) != (cut || x.Match(s) && y.Match("")) {
				t.Fatalf("%q then %q of %q", e, f, s)
			}
			if star.Match(s) != (s == "" || plus.Match(s)) || maybe.Match(s) != (s == "" || x.Match(s)) {
				t.Fatalf("%q repeated of %q", e, s)
			}
		}
	}
}

func TestP5_5_Quote(t *testing.T) {
	rnd := rand.New(rand.NewSource(56))
	var texts []string
	for c := range 128 {
		texts = append(texts, string(rune(c)), "a"+string(rune(c))+"b")
	}
	for range 1000 {
		texts = append(texts, strings.ToValidUTF8(randomText(rnd), ""))
	}
	texts = append(texts, "", "é", "\uFFFD", times("*", 128), `\n`, "a\\", "[a]", "(", "a{2}")
	for _, s := range texts {
		r := of(t, Quote(s))
		if !r.Match(s) {
			t.Errorf("Quote(%q) does not match it", s)
		}
		if got, ok := r.Literal(); got != s || !ok {
			t.Errorf("Literal of Quote(%q): %q, %v", s, got, ok)
		}
		for range 20 {
			if other := texts[rnd.Intn(len(texts))]; other != s && r.Match(other) {
				t.Errorf("Quote(%q) matches %q", s, other)
			}
		}
	}
}

func TestP5_6_PrefixAndLiteral(t *testing.T) {
	rnd := rand.New(rand.NewSource(57))
	for range 5000 {
		e := randomExpression(rnd, 2)
		r := of(t, e)
		text, is := r.Literal()
		if is && !r.Match(text) {
			t.Fatalf("%q does not match its text %q", e, text)
		}
		for _, s := range append(randomTexts(rnd, 6), r.Prefix(), r.Prefix()+"a") {
			s = strings.ToValidUTF8(s, "")
			if r.Match(s) && !strings.HasPrefix(s, r.Prefix()) {
				t.Fatalf("%q matches %q", e, s)
			}
			if is && r.Match(s) != (s == text) {
				t.Fatalf("%q, just %q, and %q", e, text, s)
			}
		}
	}
}

func TestP5_7_Repeats(t *testing.T) {
	rnd := rand.New(rand.NewSource(58))
	for range 2000 {
		e := randomExpression(rnd, 1)
		m := rnd.Intn(4)
		n := m + rnd.Intn(4)
		digits := func(n int) string { return string("0123456789"[n]) }
		braces := "(" + e + "){" + digits(m) + "," + digits(n) + "}"
		var rows []string
		for k := m; k <= n; k++ {
			rows = append(rows, times("("+e+")", k))
		}
		if len(braces) > 256 || len(strings.Join(rows, "|")) > 256 || (len(e)+2)*(m+1) > 255 {
			continue
		}
		x, y := of(t, braces), of(t, strings.Join(rows, "|"))
		exact, open := of(t, "("+e+"){"+digits(m)+"}"), of(t, "("+e+"){"+digits(m)+",}")
		unrolled, onwards := of(t, times("("+e+")", m)), of(t, times("("+e+")", m)+"("+e+")*")
		for _, s := range randomTexts(rnd, 6) {
			if x.Match(s) != y.Match(s) || exact.Match(s) != unrolled.Match(s) || open.Match(s) != onwards.Match(s) {
				t.Fatalf("%q of %q", braces, s)
			}
		}
	}
}

// A refused text leaves nothing behind: the next one is compiled as ever.
func TestP1_RefusedChangesNothing(t *testing.T) {
	r := of(t, "a(b|c)")
	for _, s := range []string{"(", times("(", 51), "a{3,2}", times("a", 257), "(a{99}){99}"} {
		Compile(s)
		if !r.Match("ab") || r.Match("a") || r.States() != 3 || r.Prefix() != "a" || !of(t, "(a)").Match("a") {
			t.Errorf("behind %q", s)
		}
	}
}
