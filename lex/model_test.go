package lex

import (
	"math"
	"math/big"
	"regexp"
	"strconv"
	"strings"
	"unicode/utf8"

	"tocsin/api"
)

// The forms of the table; of the ways in which a form can stand, these take the longest.
var (
	blankForm  = longest("^([ \t\n\r]|#[^\n]*)*")
	identForm  = longest(`^[a-zA-Z_:][a-zA-Z0-9_:]*`)
	numberForm = longest(`^(0[xX][0-9a-fA-F]+|([0-9]+(\.[0-9]*)?|\.[0-9]+)([eE][-+]?[0-9]+)?)`)
	spanForm   = longest(`^([0-9]+y)?([0-9]+w)?([0-9]+d)?([0-9]+h)?([0-9]+m)?([0-9]+s)?([0-9]+ms)?`)
	stringForm = longest(`^("([^"\\` + "\n" + `]|\\[\\"'ntr]|\\x[0-7][0-9a-fA-F])*"|'([^'\\` + "\n" + `]|\\[\\"'ntr]|\\x[0-7][0-9a-fA-F])*')`)
	signForm   = longest(`^(\(|\)|\{|\}|\[|\]|,|=|!=|=~|!~|\+|-|\*|/|%|\^|==|>|<|>=|<=)`)
	goesOnForm = regexp.MustCompile(`^[a-zA-Z0-9_:.]`)
	escapeForm = regexp.MustCompile(`\\(x..|.)`)
)

func longest(form string) *regexp.Regexp {
	r := regexp.MustCompile(form)
	r.Longest()
	return r
}

// modelBlanks: the bytes of blanks and remarks with which s begins. The library's expressions take bytes that are no right UTF-8 for one rune each.
func modelBlanks(s string) int { return len(blankForm.FindString(s)) }

// modelSays: what a string says.
func modelSays(s string) string {
	return escapeForm.ReplaceAllStringFunc(s[1:len(s)-1], func(e string) string {
		switch e[1] {
		case 'n':
			return "\n"
		case 't':
			return "\t"
		case 'r':
			return "\r"
		case 'x':
			n, _ := strconv.ParseUint(e[2:], 16, 8)
			return string(rune(n))
		}
		return e[1:]
	})
}

// modelCut: the longest of all forms that can stand at the beginning of s, as its kind, text, bytes.
func modelCut(s string) (int, string, int) {
	if text := stringForm.FindString(s); text != "" && utf8.ValidString(text) {
		return api.TString, modelSays(text), len(text)
	}
	if text := identForm.FindString(s); text != "" {
		return api.TIdent, text, len(text)
	}
	if text := signForm.FindString(s); text != "" {
		return api.TSign, text, len(text)
	}
	number, span := numberForm.FindString(s), spanForm.FindString(s)
	kind, text := api.TNumber, number
	if len(span) > len(number) {
		kind, text = api.TSpan, span
	}
	if text == "" || goesOnForm.MatchString(s[len(text):]) {
		return 0, "", 0
	}
	return kind, text, len(text)
}

func modelTokens(s string) ([]api.Token, api.Errno, int) {
	if len(s) > 65536 {
		return nil, api.ErrSize, 0
	}
	var l []api.Token
	at := modelBlanks(s)
	for at < len(s) {
		kind, text, width := modelCut(s[at:])
		if width == 0 {
			return nil, api.ErrToken, at
		}
		l = append(l, api.Token{Kind: kind, Text: text, At: at})
		at += width
		at += modelBlanks(s[at:])
	}
	l = append(l, api.Token{Kind: api.TEnd, At: len(s)})
	if len(l) > 4096 {
		return nil, api.ErrLarge, 0
	}
	return l, api.OK, 0
}

func modelNumber(s string) (float64, api.Errno) {
	if s == "" || numberForm.FindString(s) != s {
		return 0, api.ErrToken
	}
	if strings.HasPrefix(s, "0x") || strings.HasPrefix(s, "0X") {
		n, _ := new(big.Int).SetString(s[2:], 16)
		v, _ := new(big.Rat).SetInt(n).Float64()
		return v, api.OK
	}
	if len(s) < 700 {
		v, _ := strconv.ParseFloat(s, 64)
		return v, api.OK
	}
	r, _ := new(big.Rat).SetString(s)
	v, _ := r.Float64()
	return v, api.OK
}

var modelUnits = []struct {
	text string
	each int64
}{{"y", 31536000000}, {"w", 604800000}, {"d", 86400000}, {"h", 3600000}, {"m", 60000}, {"s", 1000}, {"ms", 1}}

var partForm = regexp.MustCompile(`([0-9]+)([a-z]+)`)

func modelSpan(s string) (int64, api.Errno) {
	if s == "" || spanForm.FindString(s) != s {
		return 0, api.ErrToken
	}
	sum := new(big.Int)
	for _, part := range partForm.FindAllStringSubmatch(s, -1) {
		for _, u := range modelUnits {
			if u.text == part[2] {
				n, _ := new(big.Int).SetString(part[1], 10)
				sum.Add(sum, n.Mul(n, big.NewInt(u.each)))
			}
		}
	}
	if sum.Cmp(big.NewInt(1<<40)) > 0 {
		return 0, api.ErrLarge
	}
	return sum.Int64(), api.OK
}

func modelSpanText(n int64) (string, api.Errno) {
	if n < 0 || n > 1<<40 {
		return "", api.ErrArg
	}
	s := ""
	for _, u := range modelUnits {
		if n >= u.each {
			s += strconv.FormatInt(n/u.each, 10) + u.text
		}
		n %= u.each
	}
	if s == "" {
		s = "0s"
	}
	return s, api.OK
}

func modelQuote(s string) (string, api.Errno) {
	if !utf8.ValidString(s) {
		return "", api.ErrUtf
	}
	out := []byte{'"'}
	for _, c := range []byte(s) {
		switch {
		case c == '\\' || c == '"':
			out = append(out, '\\', c)
		case c == 10:
			out = append(out, '\\', 'n')
		case c == 9:
			out = append(out, '\\', 't')
		case c == 13:
			out = append(out, '\\', 'r')
		case c < 32 || c == 127:
			out = append(out, '\\', 'x')
			if c < 16 {
				out = append(out, '0')
			}
			out = strconv.AppendUint(out, uint64(c), 16)
		default:
			out = append(out, c)
		}
	}
	return string(append(out, '"')), api.OK
}

// modelCanBe: by the kind and the text alone.
func modelCanBe(t api.Token) bool {
	switch t.Kind {
	case api.TEnd:
		return t.Text == ""
	case api.TIdent:
		return t.Text != "" && identForm.FindString(t.Text) == t.Text
	case api.TNumber:
		return t.Text != "" && numberForm.FindString(t.Text) == t.Text
	case api.TSpan:
		return t.Text != "" && spanForm.FindString(t.Text) == t.Text
	case api.TString:
		return utf8.ValidString(t.Text)
	case api.TSign:
		return t.Text != "" && signForm.FindString(t.Text) == t.Text
	}
	return false
}

func modelJoin(l []api.Token) (string, api.Errno) {
	s, count := "", len(l)+1
	for i, t := range l {
		if !modelCanBe(t) || t.Kind == api.TEnd && i != len(l)-1 {
			return "", api.ErrToken
		}
		if t.Kind == api.TEnd {
			count = len(l)
			continue
		}
		text := t.Text
		if t.Kind == api.TString {
			text, _ = modelQuote(text)
		}
		if i > 0 {
			s += " "
		}
		s += text
	}
	switch {
	case len(s) > 65536:
		return "", api.ErrSize
	case count > 4096:
		return "", api.ErrLarge
	}
	return s, api.OK
}

func sameBits(a, b float64) bool { return math.Float64bits(a) == math.Float64bits(b) }
