package regex

import (
	"math/big"
	"math/rand"
	"regexp"
	"strconv"
	"strings"
	"testing"
	"unicode/utf8"

	"tocsin/api"
)

// tree is the model of an expression, read by a stack, without calls of itself.
type tree struct {
	form  string // rune, set, row, choice, repeat
	r     rune
	in    func(rune) bool
	kids  []*tree
	m, n  int // n -1: any number
	count *big.Int
}

const modelSigns = `\.[](){}*+?|^$`

func number(n int64) *big.Int { return big.NewInt(n) }

func leaf(form string, r rune, in func(rune) bool) *tree {
	return &tree{form: form, r: r, in: in, count: number(1)}
}

func several(form string, kids []*tree) *tree {
	x := &tree{form: form, kids: kids, count: number(0)}
	for _, k := range kids {
		x.count = new(big.Int).Add(x.count, k.count)
	}
	return x
}

func again(k *tree, m, n int, times int64) *tree {
	c := new(big.Int).Mul(k.count, number(times))
	return &tree{form: "repeat", kids: []*tree{k}, m: m, n: n, count: c.Add(c, number(1))}
}

// modelEscape: what a \ and a byte are: a form (escaped, control, set), or none.
func modelEscape(c byte) (string, rune, func(rune) bool) {
	sets := map[byte]string{'d': "0123456789", 's': " \t\n\f\r", 'w': "0123456789_abcdefghijklmnopqrstuvwxyzABCDEFGHIJKLMNOPQRSTUVWXYZ"}
	controls := map[byte]rune{'n': 10, 'r': 13, 't': 9}
	if in, ok := sets[c]; ok {
		return "set", 0, func(r rune) bool { return strings.ContainsRune(in, r) }
	}
	if in, ok := sets[c+32]; ok && c < 'a' {
		return "set", 0, func(r rune) bool { return !strings.ContainsRune(in, r) }
	}
	if r, ok := controls[c]; ok {
		return "control", r, nil
	}
	if c < 128 && strings.ContainsRune(modelSigns+"-/", rune(c)) {
		return "escaped", rune(c), nil
	}
	return "none", 0, nil
}

// token is a rune of a class, or an escape: its form is plain, escaped, control, set, none, or cut.
type token struct {
	form string
	at   int
	r    rune
	in   func(rune) bool
}

// tokens: of a class from the place at on, up to the ] that ends it; where that stands, or -1.
func tokens(s string, at int) ([]token, int) {
	var l []token
	for at < len(s) && s[at] != ']' {
		if s[at] != '\\' {
			r, n := utf8.DecodeRuneInString(s[at:])
			l = append(l, token{"plain", at, r, nil})
			at += n
			continue
		}
		if at+1 == len(s) {
			return append(l, token{"cut", at, 0, nil}), -1
		}
		form, r, in := modelEscape(s[at+1])
		l = append(l, token{form, at, r, in})
		at += 2
	}
	if at == len(s) {
		return l, -1
	}
	return l, at
}

// modelClass: the class whose [ stands at the place at: what it takes, and the place behind it; or the place of a fault, and true.
func modelClass(s string, at int) (func(rune) bool, int, bool) {
	at++
	negated := strings.HasPrefix(s[at:], "^")
	if negated {
		at++
	}
	l, closed := tokens(s, at)
	var ins []func(rune) bool
	for k := 0; k < len(l); {
		x := l[k]
		dash := func(i int) bool { return i < len(l) && l[i].form == "plain" && l[i].r == '-' }
		switch {
		case x.form == "cut":
			return nil, len(s), true
		case x.form == "none", k == 0 && x.form == "plain" && x.r == '^':
			return nil, x.at, true
		case k > 0 && dash(k) && k+1 < len(l):
			return nil, x.at, true
		case x.form == "set":
			ins = append(ins, x.in)
			k++
			continue
		case !dash(k+1) || k+2 == len(l):
			ins = append(ins, func(r rune) bool { return r == x.r })
			k++
			continue
		}
		to := l[k+2]
		switch {
		case to.form == "cut":
			return nil, len(s), true
		case to.form != "plain" && to.form != "escaped", to.r < x.r:
			return nil, x.at, true
		}
		ins = append(ins, func(r rune) bool { return x.r <= r && r <= to.r })
		k += 3
	}
	switch {
	case closed < 0:
		return nil, len(s), true
	case len(l) == 0:
		return nil, closed, true
	}
	return func(r rune) bool {
		for _, in := range ins {
			if in(r) {
				return !negated
			}
		}
		return negated
	}, closed + 1, false
}

var (
	wholeBraces = regexp.MustCompile(`^\{([0-9]{1,2})(,([0-9]{0,2}))?\}`)
	cutBraces   = regexp.MustCompile(`^\{([0-9]{1,2}(,([0-9]{1,2})?)?)?$`)
)

// frame is an open parenthesis, or the whole: its rows, the last of which goes on.
type frame struct {
	rows [][]*tree
}

func (f *frame) add(x *tree) {
	f.rows[len(f.rows)-1] = append(f.rows[len(f.rows)-1], x)
}

func (f *frame) tree() *tree {
	var rows []*tree
	for _, row := range f.rows {
		rows = append(rows, several("row", row))
	}
	return several("choice", rows)
}

func modelRead(s string) (*tree, api.Errno, int) {
	if len(s) > 256 {
		return nil, api.ErrSize, 0
	}
	stack := []*frame{{rows: make([][]*tree, 1)}}
	thing := false // Does a thing without a repeat stand right ahead?
	for at := 0; at < len(s); {
		top := stack[len(stack)-1]
		row := &top.rows[len(top.rows)-1]
		repeat := func(m, n int, times int64) {
			(*row)[len(*row)-1] = again((*row)[len(*row)-1], m, n, times)
			thing = false
		}
		switch c := s[at]; {
		case c == '(':
			if len(stack) == 51 {
				return nil, api.ErrDeep, at
			}
			at++
			if at < len(s) && s[at] == '?' {
				if at+1 == len(s) || s[at+1] != ':' {
					return nil, api.ErrRegex, at + 1
				}
				at += 2
			}
			stack = append(stack, &frame{rows: make([][]*tree, 1)})
			thing = false
		case c == ')' && len(stack) > 1:
			stack = stack[:len(stack)-1]
			stack[len(stack)-1].add(top.tree())
			thing = true
			at++
		case c == '|':
			top.rows = append(top.rows, nil)
			thing = false
			at++
		case strings.IndexByte("*+?{", c) >= 0 && !thing:
			return nil, api.ErrRegex, at
		case c == '*':
			repeat(0, -1, 1)
			at++
		case c == '+':
			repeat(1, -1, 1)
			at++
		case c == '?':
			repeat(0, 1, 1)
			at++
		case c == '{':
			found := wholeBraces.FindStringSubmatch(s[at:])
			if found == nil {
				if cutBraces.MatchString(s[at:]) {
					return nil, api.ErrRegex, len(s)
				}
				return nil, api.ErrRegex, at
			}
			m, _ := strconv.Atoi(found[1])
			n, err := strconv.Atoi(found[3])
			switch {
			case found[2] == "":
				repeat(m, m, int64(m))
			case err != nil:
				repeat(m, -1, int64(m)+1)
			case m > n:
				return nil, api.ErrRegex, at
			default:
				repeat(m, n, int64(n))
			}
			at += len(found[0])
		case c == '[':
			in, to, fault := modelClass(s, at)
			if fault {
				return nil, api.ErrRegex, to
			}
			top.add(leaf("set", 0, in))
			thing = true
			at = to
		case c == '\\':
			if at+1 == len(s) {
				return nil, api.ErrRegex, len(s)
			}
			form, r, in := modelEscape(s[at+1])
			if form == "none" {
				return nil, api.ErrRegex, at
			}
			top.add(leaf(form, r, in))
			thing = true
			at += 2
		case c == '.':
			top.add(leaf("set", 0, func(r rune) bool { return r != 10 }))
			thing = true
			at++
		case c < 128 && strings.ContainsRune(modelSigns, rune(c)):
			return nil, api.ErrRegex, at
		default:
			r, n := utf8.DecodeRuneInString(s[at:])
			top.add(leaf("escaped", r, nil))
			thing = true
			at += n
		}
	}
	if len(stack) > 1 {
		return nil, api.ErrRegex, len(s)
	}
	x := stack[0].tree()
	if x.count.Cmp(number(2000)) > 0 {
		return nil, api.ErrLarge, 0
	}
	return x, api.OK, 0
}

// from: the places that the expression leads to, from any of those that are true.
func (x *tree) from(text []rune, places []bool) []bool {
	out := make([]bool, len(places))
	switch x.form {
	case "row":
		copy(out, places)
		for _, k := range x.kids {
			out = k.from(text, out)
		}
	case "choice":
		for _, k := range x.kids {
			for i, ok := range k.from(text, places) {
				out[i] = out[i] || ok
			}
		}
	case "repeat":
		reached := places
		for n := 0; ; n++ {
			grown := false
			for i, ok := range reached {
				if ok && n >= x.m && !out[i] {
					out[i], grown = true, true
				}
			}
			if n == x.n || n > x.m && !grown && x.n < 0 {
				break
			}
			reached = x.kids[0].from(text, reached)
		}
	default:
		for i, ok := range places[:len(text)] {
			out[i+1] = ok && (x.in != nil && x.in(text[i]) || x.in == nil && text[i] == x.r)
		}
	}
	return out
}

func (x *tree) match(s string) bool {
	text := []rune(s)
	places := make([]bool, len(text)+1)
	places[0] = true
	return x.from(text, places)[len(text)]
}

func (x *tree) literal() (string, bool) {
	s := ""
	for _, k := range x.kids[0].kids {
		if k.form != "escaped" && k.form != "control" {
			return "", false
		}
		s += string(k.r)
	}
	if len(x.kids) > 1 {
		return "", false
	}
	return s, true
}

func (x *tree) prefix() string {
	s := ""
	for _, k := range x.kids[0].kids {
		if k.form != "escaped" {
			break
		}
		s += string(k.r)
	}
	if len(x.kids) > 1 {
		return ""
	}
	return s
}

// sameCompile: Compile says of s what the model says, fault by fault, and text by text.
func sameCompile(t *testing.T, s string, texts ...string) {
	t.Helper()
	want, e, place := modelRead(s)
	r, got, at := Compile(s)
	if got != e || at != place {
		t.Fatalf("Compile(%q): %d, %d, not %d, %d", s, got, at, e, place)
	}
	if e != api.OK {
		if r != nil {
			t.Fatalf("Compile(%q): an expression beside %d", s, e)
		}
		return
	}
	if n := number(int64(r.States())); n.Cmp(want.count) != 0 {
		t.Fatalf("States of %q: %v, not %v", s, n, want.count)
	}
	text, ok := r.Literal()
	if s2, is := want.literal(); text != s2 || ok != is {
		t.Fatalf("Literal of %q: %q, %v, not %q, %v", s, text, ok, s2, is)
	}
	if p := want.prefix(); r.Prefix() != p {
		t.Fatalf("Prefix of %q: %q, not %q", s, r.Prefix(), p)
	}
	for _, x := range texts {
		ok := want.match(x)
		if r.Match(x) != ok {
			t.Fatalf("Match of %q: %q is %v", s, x, !ok)
		}
		if ok && !strings.HasPrefix(string([]rune(x)), r.Prefix()) {
			t.Fatalf("%q matches %q without %q", s, x, r.Prefix())
		}
	}
}

// randomText: short, of few signs, so that it is often matched.
func randomText(r *rand.Rand) string {
	parts := []string{"a", "b", "a", "b", "ab", "c", "1", "_", " ", "\n", "\t", "é", "\xff", "\uFFFD", "-", "^", "]"}
	var b strings.Builder
	for range r.Intn(9) {
		b.WriteString(parts[r.Intn(len(parts))])
	}
	return b.String()
}

func randomTexts(r *rand.Rand, n int) []string {
	l := []string{""}
	for range n {
		l = append(l, randomText(r))
	}
	return l
}

// randomExpression: a right one, mostly small.
func randomExpression(r *rand.Rand, depth int) string {
	things := []string{"a", "b", "c", "é", "-", "/", "1", ".", `\.`, `\\`, `\-`, `\n`, `\t`, `\d`, `\w`, `\s`, `\D`, `\W`, `\S`, "[ab]", "[^a]", "[a-c]", `[\d_-]`, "[-a]", `[^\^-b]`, `[\^a]`, "[b-é]", "\uFFFD"}
	var rows []string
	for range 1 + r.Intn(3)*r.Intn(2) {
		var b strings.Builder
		for range r.Intn(4) {
			if depth > 0 && r.Intn(3) == 0 {
				open := []string{"(", "(?:"}[r.Intn(2)]
				b.WriteString(open + randomExpression(r, depth-1) + ")")
			} else {
				b.WriteString(things[r.Intn(len(things))])
			}
			repeats := []string{"", "", "", "*", "+", "?", "{2}", "{0}", "{1,}", "{0,2}", "{1,3}", "{2,}", "{0,}", "{02}"}
			b.WriteString(repeats[r.Intn(len(repeats))])
		}
		rows = append(rows, b.String())
	}
	return strings.Join(rows, "|")
}

func TestP5_1_AsTheModel(t *testing.T) {
	parts := []string{"a", "b", "z", "0", "1", "12", ",", "{", "}", "{2}", "{1,2}", "{3,1}", "{1,", "(", ")", "(?:", "?", "*", "+", "|", ".", "[", "[^", "]", "-", "^", "$", "\\", `\d`, `\n`, `\-`, `\]`, `\q`, "é", "\xff", "\n", ":", "/", "[a-b]", "[b-a]", `[a-\d]`, `[\t-\n]`}
	r := rand.New(rand.NewSource(51))
	for range 100000 {
		var b strings.Builder
		for range r.Intn(10) {
			b.WriteString(parts[r.Intn(len(parts))])
		}
		sameCompile(t, b.String(), randomTexts(r, 2)...)
	}
	// Classes alone.
	in := []string{"a", "b", "-", "-", "^", `\-`, `\d`, `\D`, `\n`, `\]`, `\q`, "]", "[", "\\", "é", "."}
	for range 100000 {
		var b strings.Builder
		b.WriteString("[")
		for range r.Intn(6) {
			b.WriteString(in[r.Intn(len(in))])
		}
		if r.Intn(4) > 0 {
			b.WriteString("]")
		}
		sameCompile(t, b.String(), randomTexts(r, 2)...)
	}
	// Braces alone.
	for range 50000 {
		var b strings.Builder
		b.WriteString("a{")
		for range r.Intn(6) {
			b.WriteByte("012,}x9{"[r.Intn(8)])
		}
		sameCompile(t, b.String(), "", "a", "aa", strings.Repeat("a", r.Intn(100)))
	}
}

func TestP5_2_AsTheModel(t *testing.T) {
	r := rand.New(rand.NewSource(52))
	for range 30000 {
		e := randomExpression(r, 3)
		sameCompile(t, e, randomTexts(r, 8)...)
		// Nearly right: one byte put in, taken away or changed, and cut.
		at := r.Intn(len(e) + 1)
		sign := string("\\.[](){}*+?|^$-a,1"[r.Intn(18)])
		for _, s := range []string{e[:at], e[:at] + sign + e[at:], e[:at] + e[min(at+1, len(e)):], e[:at] + sign + e[min(at+1, len(e)):]} {
			sameCompile(t, s, randomTexts(r, 1)...)
		}
	}
}

// What Go's own expressions say of the same text is another model (but no number of theirs begins with 0).
func TestP5_2_AsGo(t *testing.T) {
	rnd := rand.New(rand.NewSource(53))
	held := 0
	for range 30000 {
		s := randomExpression(rnd, 3)
		r, e, _ := Compile(s)
		g, err := regexp.Compile("^(?:" + strings.ReplaceAll(s, "{02}", "{2}") + ")$")
		if e != api.OK || err != nil {
			continue
		}
		held++
		for _, x := range randomTexts(rnd, 8) {
			if r.Match(x) != g.MatchString(x) {
				t.Fatalf("%q, %q: %v", s, x, r.Match(x))
			}
		}
	}
	if held < 15000 {
		t.Error("too few", held)
	}
}

func FuzzRegex(f *testing.F) {
	f.Add("a(b|c)*d", "abccbd")
	f.Add(`[^\d-]{2,3}`, "é\xff")
	f.Add("((a{99}){99}){0}", "")
	f.Fuzz(func(t *testing.T, s, x string) {
		if len(x) > 50 {
			x = x[:50]
		}
		sameCompile(t, s, x, "")
	})
}
