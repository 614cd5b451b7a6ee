package config

import (
	"errors"
	"strconv"
	"strings"

	"tocsin/api"
	"tocsin/labels"
	"tocsin/lex"
	"tocsin/match"
)

const (
	blanks   = " \t\r"
	wordBits = 31 // bits of the greatest number that can be read
)

var (
	errAbsent = errors.New("another word stands here")
	errForm   = errors.New("what belongs to a word can not be read")
	errWord   = errors.New("no line begins with this word")
	errPlace  = errors.New("a line that can not stand here")
	errMore   = errors.New("more than a line has")
)

// partFault is what is at fault of the part of a word.
type partFault struct {
	word  string
	cause error
}

func (f partFault) Error() string { return f.word + ": " + f.cause.Error() }

func (f partFault) Unwrap() error { return f.cause }

// line is what is left to read of a line, with no blanks at its ends, and the first fault that was met: behind it nothing is read.
type line struct {
	rest string
	err  error
}

// newLine answers a line without its remark.
func newLine(s string) *line {
	if at := outside(s, '#'); at >= 0 {
		s = s[:at]
	}
	return &line{rest: trimmed(s)}
}

// must reads the part of a word, which must stand here.
func must[T any](l *line, word string, read func(*line) (T, error), to *T) {
	if l.err == nil {
		l.err = part(l, word, read, to)
	}
}

// may reads the part of a word, if it stands here.
func may[T any](l *line, word string, read func(*line) (T, error), to *T) {
	if l.err != nil {
		return
	}
	if err := part(l, word, read, to); !errors.Is(err, errAbsent) {
		l.err = err
	}
}

func part[T any](l *line, word string, read func(*line) (T, error), to *T) error {
	if l.word() != word {
		return partFault{word: word, cause: errAbsent}
	}
	l.cut(len(word))
	v, err := read(l)
	if err != nil {
		return partFault{word: word, cause: err}
	}
	*to = v
	return nil
}

// refuse keeps a fault, if it is the first one.
func (l *line) refuse(err error) {
	if l.err == nil {
		l.err = err
	}
}

// end: a line that has more than was read is at fault.
func (l *line) end() {
	if l.rest != "" {
		l.refuse(errMore)
	}
}

// word answers all up to the next blank.
func (l *line) word() string {
	if at := strings.IndexAny(l.rest, blanks); at >= 0 {
		return l.rest[:at]
	}
	return l.rest
}

// cut takes n bytes, behind which a blank must stand, if anything does.
func (l *line) cut(n int) (string, error) {
	text, rest := l.rest[:n], l.rest[n:]
	l.rest = trimmed(rest)
	if len(l.rest) > 0 && len(l.rest) == len(rest) {
		return "", errForm
	}
	return text, nil
}

// nothing reads what belongs to a word that says all by itself.
func (l *line) nothing() (bool, error) {
	return true, nil
}

func (l *line) span() (int64, error) {
	word, _ := l.cut(len(l.word()))
	n, e := lex.Span(word)
	return n, unlessOK(e)
}

// name reads the name of a group or a receiver.
func (l *line) name() (string, error) {
	word, _ := l.cut(len(l.word()))
	if !Name(word) {
		return "", errForm
	}
	return word, nil
}

func (l *line) metric() (string, error) {
	word, _ := l.cut(len(l.word()))
	if !labels.Metric(word) {
		return "", errForm
	}
	return word, nil
}

// number reads decimal digits.
func (l *line) number() (int, error) {
	word, _ := l.cut(len(l.word()))
	n, err := strconv.ParseUint(word, 10, wordBits)
	if err != nil {
		return 0, errForm
	}
	return int(n), nil
}

// quoted reads a name as lex.Quote writes it.
func (l *line) quoted() (string, error) {
	if !strings.HasPrefix(l.rest, `"`) {
		return "", errForm
	}
	text, err := l.cut(quotedWidth(l.rest))
	if err != nil {
		return "", err
	}
	tokens, e, _ := lex.Tokens(text)
	if e != api.OK {
		return "", errForm
	}
	again, _ := lex.Quote(tokens[0].Text)
	if again != text {
		return "", errForm
	}
	return tokens[0].Text, nil
}

func (l *line) labels() ([]api.Label, error) {
	text, err := l.braces()
	if err != nil {
		return nil, err
	}
	set, e, _ := labels.Parse(text)
	return set, unlessOK(e)
}

func (l *line) matchers() ([]api.Matcher, error) {
	text, err := l.braces()
	if err != nil {
		return nil, err
	}
	list, e, _ := match.Parse(text)
	return list, unlessOK(e)
}

// braces reads a list in braces.
func (l *line) braces() (string, error) {
	to := outside(l.rest, '}')
	if to < 0 || l.rest[0] != '{' {
		return "", errForm
	}
	return l.cut(to + 1)
}

// names reads names with a comma between two.
func (l *line) names() ([]string, error) {
	var out []string
	for {
		width := nameWidth(l.rest)
		if width == 0 {
			return nil, errForm
		}
		out = append(out, l.rest[:width])
		behind := trimmed(l.rest[width:])
		if !strings.HasPrefix(behind, ",") {
			_, err := l.cut(width)
			return out, err
		}
		l.rest = trimmed(behind[1:])
	}
}

// expr reads the rest of the line, whatever it is.
func (l *line) expr() (string, error) {
	return l.cut(len(l.rest))
}

func unlessOK(e api.Errno) error {
	if e == api.OK {
		return nil
	}
	return errForm
}

func nameWidth(s string) int {
	for i, r := range s {
		if !inWord(r) {
			return i
		}
	}
	return len(s)
}

// outside answers where the first c of s stands that is not within ": -1, if there is none.
func outside(s string, c byte) int {
	for i := 0; i < len(s); i++ {
		switch s[i] {
		case c:
			return i
		case '"':
			i += quotedWidth(s[i:]) - 1
		}
	}
	return -1
}

// quotedWidth answers how many bytes s, which begins with ", has up to the " that ends it: all, if none does.
func quotedWidth(s string) int {
	for i := 1; i < len(s); i++ {
		switch s[i] {
		case '"':
			return i + 1
		case '\\':
			// What is behind it ends nothing.
			i++
		}
	}
	return len(s)
}

func trimmed(s string) string {
	return strings.Trim(s, blanks)
}
