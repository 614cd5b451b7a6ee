package regex

// class reads a class: it is asked whether a rune is of it.
func (t *reader) class() func(rune) bool {
	t.need('[')
	negated := t.skip('^')
	takes := []func(rune) bool{t.member(true)}
	for t.ahead(0) != ']' {
		takes = append(takes, t.member(false))
	}
	t.need(']')
	if negated {
		return not(anyOf(takes))
	}
	return anyOf(takes)
}

// member reads a rune, an escape or a range of a class.
func (t *reader) member(first bool) func(rune) bool {
	from := t.at
	low := t.low(first)
	// A - with the end of the class behind it is the last rune, and no range.
	if low.kind == runeSet || t.ahead(0) != '-' || t.ahead(1) == ']' {
		return low.take
	}
	t.need('-')
	high := t.high(from)
	if low.r > high {
		t.refuse(from)
	}
	return between(low.r, high)
}

// low reads what may stand alone in a class, or begin a range.
func (t *reader) low(first bool) sign {
	switch c := t.ahead(0); {
	case c == '\\':
		return t.escape()
	case first && (c == ']' || c == '^'), !first && c == '-' && t.ahead(1) != ']':
		t.refuse(t.at)
	}
	return plain(t.nextRune())
}

// high reads the end of the range that begins at the place from: a rune, or an escaped sign.
func (t *reader) high(from int) rune {
	if t.ahead(0) != '\\' {
		return t.nextRune()
	}
	c := t.ahead(1)
	if !isEscapable(c) {
		t.refuse(from)
	}
	t.at += 2
	return rune(c)
}
