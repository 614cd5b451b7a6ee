// Package jsontext writes texts as JSON has them. Notifications and answers share it.
package jsontext

import "strings"

const smallDigits = "0123456789abcdef"

// Quote answers the JSON text that says s.
func Quote(s string) string {
	var b strings.Builder
	b.WriteByte('"')
	for i := range len(s) {
		quoteByte(&b, s[i])
	}
	b.WriteByte('"')
	return b.String()
}

func quoteByte(b *strings.Builder, c byte) {
	switch {
	case c == '\n':
		b.WriteString(`\n`)
	case c == '\r':
		b.WriteString(`\r`)
	case c == '\t':
		b.WriteString(`\t`)
	case c < ' ':
		b.WriteString(`\u00`)
		b.WriteByte(smallDigits[c/16])
		b.WriteByte(smallDigits[c%16])
	case c == '"', c == '\\':
		b.WriteByte('\\')
		fallthrough
	default:
		b.WriteByte(c)
	}
}
