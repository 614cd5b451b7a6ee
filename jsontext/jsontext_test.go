package jsontext

import (
	"encoding/json"
	"fmt"
	"strings"
	"testing"
	"unicode/utf8"
)

func TestQuote(t *testing.T) {
	for c := range 256 {
		s := string([]byte{byte(c)})
		want := s
		switch {
		case c == '"' || c == '\\':
			want = `\` + s
		case c == '\n':
			want = `\n`
		case c == '\r':
			want = `\r`
		case c == '\t':
			want = `\t`
		case c < 32:
			want = fmt.Sprintf(`\u00%02x`, c)
		}
		if got := Quote(s); got != `"`+want+`"` {
			t.Errorf("Quote(%q): %s", s, got)
		}
		if got := Quote("a" + s + s + "b"); got != `"a`+want+want+`b"` {
			t.Errorf("Quote: %s", got)
		}
	}
	for _, s := range []string{"", "a", "é€😀\ufffd\u2028<>&/\x7f", "\x00\x1f\"\\\n\r\t\b\f", strings.Repeat("é\"", 100000)} {
		var again string
		if err := json.Unmarshal([]byte(Quote(s)), &again); err != nil || again != s || !utf8.ValidString(Quote(s)) {
			t.Errorf("%.100q: %.100q, %v", s, again, err)
		}
	}
}
