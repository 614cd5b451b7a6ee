package regex

import "strings"

// signs are the runes that stand for something else than themselves.
const signs = `\.[](){}*+?|^$`

// escapable are the signs that stand for themselves behind a \.
const escapable = signs + "-/"

// sign is what takes one rune: which, as a question, and, if it is just one, that one.
type sign struct {
	kind kind
	r    rune
	take func(rune) bool
}

func plain(r rune) sign {
	return sign{kind: plainRune, r: r, take: is(r)}
}

func control(r rune) sign {
	return sign{kind: controlRune, r: r, take: is(r)}
}

func set(take func(rune) bool) sign {
	return sign{kind: runeSet, take: take}
}

// behindBackslash tells what a \ and the byte c behind it stand for.
func behindBackslash(c byte) (sign, bool) {
	switch c {
	case 'n':
		return control('\n'), true
	case 'r':
		return control('\r'), true
	case 't':
		return control('\t'), true
	case 'd':
		return set(isDigit), true
	case 'w':
		return set(isWord), true
	case 's':
		return set(isBlank), true
	case 'D':
		return set(not(isDigit)), true
	case 'W':
		return set(not(isWord)), true
	case 'S':
		return set(not(isBlank)), true
	}
	if isEscapable(c) {
		return plain(rune(c)), true
	}
	return sign{}, false
}

func isEscapable(c byte) bool {
	return strings.IndexByte(escapable, c) >= 0
}

func is(one rune) func(rune) bool {
	return func(r rune) bool { return r == one }
}

func between(low, high rune) func(rune) bool {
	return func(r rune) bool { return low <= r && r <= high }
}

func not(take func(rune) bool) func(rune) bool {
	return func(r rune) bool { return !take(r) }
}

func anyOf(takes []func(rune) bool) func(rune) bool {
	return func(r rune) bool {
		for _, take := range takes {
			if take(r) {
				return true
			}
		}
		return false
	}
}

func isDigit(r rune) bool {
	return '0' <= r && r <= '9'
}

func isWord(r rune) bool {
	return 'a' <= r && r <= 'z' || 'A' <= r && r <= 'Z' || r == '_' || isDigit(r)
}

func isBlank(r rune) bool {
	return r == '\t' || r == '\n' || r == '\f' || r == '\r' || r == ' '
}
