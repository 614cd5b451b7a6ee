package digits

import (
	"strings"
	"testing"
)

func TestRead(t *testing.T) {
	for s, want := range map[string]int64{
		"0": 0, "7": 7, "007": 7, "1125899906842624": 1 << 50,
		"9999999999999999": 9999999999999999, "0000000000000001": 1,
	} {
		if n, ok := Read(s); n != want || !ok {
			t.Errorf("%q: %d, %v", s, n, ok)
		}
	}
	for _, s := range []string{"", "-1", "+1", "-0", "1.0", "1e3", "0x1", "1_0", " 1", "1 ", "a", "1a", "\x00", "\xff", "٣", "00000000000000001", "99999999999999999", strings.Repeat("9", 100)} {
		if n, ok := Read(s); n != 0 || ok {
			t.Errorf("%q: %d, %v", s, n, ok)
		}
	}
}
