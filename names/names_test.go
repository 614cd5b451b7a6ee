package names

import (
	"fmt"
	"slices"
	"strings"
	"testing"
)

// several answers n names, no two the same.
func several(n int) []string {
	var l []string
	for i := range n {
		l = append(l, fmt.Sprint("n", i))
	}
	return l
}

func TestRight(t *testing.T) {
	for _, x := range []struct {
		l    []string
		want bool
	}{
		{nil, true}, {[]string{}, true}, {several(1), true}, {several(15), true}, {several(16), true}, {several(17), false}, {several(1000), false},
		{[]string{"job"}, true}, {[]string{"b", "a", "__name__", "A9_"}, true}, {[]string{strings.Repeat("n", 64)}, true},
		{[]string{strings.Repeat("n", 65)}, false}, {[]string{""}, false}, {[]string{"9"}, false}, {[]string{"a:b"}, false}, {[]string{"a", "é"}, false}, {[]string{"a", "b", "\xff"}, false},
		{[]string{"a", "a"}, false}, {[]string{"a", "b", "a"}, false}, {[]string{"b", "c", "d", "d"}, false}, {[]string{"a", "A"}, true},
		{append(several(15), "n0"), false}, {append(several(15), "n14"), false},
	} {
		was := slices.Clone(x.l)
		if got := Right(x.l); got != x.want {
			t.Errorf("%q: %v", x.l, got)
		}
		if !slices.Equal(x.l, was) {
			t.Errorf("%q was changed", was)
		}
	}
}
