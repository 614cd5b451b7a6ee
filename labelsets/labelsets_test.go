package labelsets

import (
	"slices"
	"strings"
	"testing"

	"tocsin/api"
)

// of answers the labels of names and values, as they stand.
func of(words ...string) []api.Label {
	var l []api.Label
	for i := 0; i < len(words); i += 2 {
		l = append(l, api.Label{Name: words[i], Value: words[i+1]})
	}
	return l
}

func TestRight(t *testing.T) {
	right := [][]api.Label{nil, {}, of("a", "1"), of("a", "1", "b", "é"), of("a", "1")}
	if !Right() || !Right(right...) {
		t.Error("right ones")
	}
	for _, wrong := range [][]api.Label{of("a", ""), of("1", "a"), of("b", "1", "a", "1"), of("a", "1", "a", "1"), of("a", "\xff"), of("a", strings.Repeat("v", 257)), make([]api.Label, 17)} {
		for at := range len(right) + 1 {
			if Right(slices.Insert(slices.Clone(right), at, wrong)...) {
				t.Error(wrong, at)
			}
		}
	}
}

func TestCopy(t *testing.T) {
	if len(Copy(nil)) != 0 {
		t.Error(Copy(nil))
	}
	one := of("a", "1", "b", "2")
	l := [][]api.Label{one, nil, one}
	out := Copy(l)
	if len(out) != 3 || !slices.Equal(out[0], one) || len(out[1]) != 0 || !slices.Equal(out[2], one) {
		t.Error(out)
	}
	out[0][0].Value = "spoilt"
	out[1] = one
	_ = append(out[0][:1], of("c", "3")...)
	if !slices.Equal(l[0], of("a", "1", "b", "2")) || l[1] != nil || !slices.Equal(out[2], one) {
		t.Error(l, out)
	}
}
