package http

import (
	"fmt"
	"strings"
	"testing"
	"unicode/utf8"

	"tocsin/api"
)

func TestP28_4_Escape(t *testing.T) {
	for c := range 256 {
		s := string([]byte{byte(c)})
		want := fmt.Sprintf("%%%02X", c)
		if c < 128 && strings.Contains("ABCDEFGHIJKLMNOPQRSTUVWXYZabcdefghijklmnopqrstuvwxyz0123456789._-~", s) {
			want = s
		}
		if got := Escape(s); got != want {
			t.Errorf("Escape(%q): %q", s, got)
		}
		if got := Escape("a" + s + s + "é"); got != "a"+want+want+"%C3%A9" {
			t.Errorf("Escape: %q", got)
		}
	}
	if got := Escape(""); got != "" {
		t.Error(got)
	}
	if got := Escape("a b+c/é~\xff"); got != "a%20b%2Bc%2F%C3%A9~%FF" {
		t.Error(got)
	}
}

func TestP28_4_Unescape(t *testing.T) {
	for c := range 256 {
		s := string([]byte{byte(c)})
		want, e := "", api.ErrForm
		switch {
		case c == '+':
			want, e = " ", api.OK
		case c < 128 && strings.Contains("ABCDEFGHIJKLMNOPQRSTUVWXYZabcdefghijklmnopqrstuvwxyz0123456789._-~", s):
			want, e = s, api.OK
		}
		if got, f := Unescape(s); got != want || f != e {
			t.Errorf("Unescape(%q): %q, %d", s, got, f)
		}
		// Each byte by its digits, in either case of them.
		for _, form := range []string{"%%%02x", "%%%02X"} {
			want, e := s, api.OK
			if c > 127 {
				want, e = "", api.ErrUtf
			}
			if got, f := Unescape(fmt.Sprintf(form, c)); got != want || f != e {
				t.Errorf("Unescape("+form+"): %q, %d", c, got, f)
			}
		}
	}
	for _, c := range []struct {
		s, want string
		e       api.Errno
	}{
		{"", "", api.OK},
		{"a+b%20c", "a b c", api.OK},
		{"%c3%A9", "é", api.OK},
		{"%F0%9F%98%80x", "😀x", api.OK},
		{"%25%32%35", "%25", api.OK},
		{"%aB", "", api.ErrUtf},
		{"%C3", "", api.ErrUtf},
		{"%A9%C3", "", api.ErrUtf},
		{"a%C3b", "", api.ErrUtf},
		{"%ED%A0%80", "", api.ErrUtf},
		{"%C0%80", "", api.ErrUtf},
		{"%F4%90%80%80", "", api.ErrUtf},
		{"%", "", api.ErrForm},
		{"a%", "", api.ErrForm},
		{"%4", "", api.ErrForm},
		{"%4%41", "", api.ErrForm},
		{"%%41", "", api.ErrForm},
		{"%g0", "", api.ErrForm},
		{"%0g", "", api.ErrForm},
		{"%+1", "", api.ErrForm},
		{"%-1", "", api.ErrForm},
		{"% 1", "", api.ErrForm},
		{"%0x", "", api.ErrForm},
		{"%1_", "", api.ErrForm},
		{"a b", "", api.ErrForm},
		{"a/b", "", api.ErrForm},
		{"a=b", "", api.ErrForm},
		{"a&b", "", api.ErrForm},
		{"é", "", api.ErrForm},
		// Two faults at once: the one that is named first, wherever it stands.
		{"%ff%", "", api.ErrForm},
		{"%ff/", "", api.ErrForm},
		{"/%ff", "", api.ErrForm},
		{"%ff%4", "", api.ErrForm},
	} {
		if got, e := Unescape(c.s); got != c.want || e != c.e {
			t.Errorf("Unescape(%q): %q, %d", c.s, got, e)
		}
	}
}

func checkEscape(t *testing.T, s string) {
	t.Helper()
	got, e := Unescape(Escape(s))
	switch {
	case utf8.ValidString(s) && (got != s || e != api.OK):
		t.Errorf("%q: %q, %d", s, got, e)
	case !utf8.ValidString(s) && (got != "" || e != api.ErrUtf):
		t.Errorf("%q: %q, %d", s, got, e)
	}
}

// TestP28_7_Escape: Unescape(Escape(s)) is s, of right UTF-8.
func TestP28_7_Escape(t *testing.T) {
	r := newSource(2874)
	for range 20000 {
		s := r.text() + r.text()
		checkEscape(t, s)
		checkEscape(t, r.spoilt(s, "\x80\xff\xc3%+ a"))
	}
	checkEscape(t, strings.Repeat("é ", 1<<18))
}
