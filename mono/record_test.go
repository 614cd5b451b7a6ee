package mono

import (
	"fmt"
	"math"
	"testing"

	"tocsin/api"
)

// P9: what a record says is read as it was written; cut anywhere, or with a byte more, it says nothing.
func TestRecords(t *testing.T) {
	m := loaded(t, "receiver team\ngroup g every 1s\nalert \"A\" for 1s keep 1h expr up == 0\nrecord x expr up\nalert \"B\" expr up\ngroup h every 1h\nroute receiver team wait 0s\n")
	wrote(t, m, "up{a=\"1\"} 0\nup{a=\"2\"} NaN\n")
	ticks(t, m, 0, "team 1,2/")
	ticks(t, m, 1000)
	active := fmt.Sprint(m.Active())
	for kind, read := range map[byte]func(b []byte) bool{
		ofSample: func(b []byte) bool {
			l, s, ok := readSample(b)
			return ok && labelsText(l) == "[{__name__ up} {a 1}]" && s.T == 7 && math.Float64bits(s.V) == 0x7ff0000000000002
		},
		ofConfig: func(b []byte) bool {
			c, at, ok := readConfig(b)
			return ok && len(c.Groups) == 2 && at == 0
		},
		ofActive: func(b []byte) bool {
			l, ok := readActive(b, m.config.Groups)
			if !ok {
				return false
			}
			again := &Machine{disk: m.disk, courses: l}
			return len(l) == 2 && l[0].last == 1000 && l[1].last == 0 && len(l[0].keepers) == 3 && l[0].keepers[1] == nil && fmt.Sprint(again.Active()) == active
		},
		ofBlocks: func(b []byte) bool {
			l, ok := readBlocks(b)
			return ok && fmt.Sprint(l) == "[1 2 300]"
		},
	} {
		b := map[byte][]byte{
			ofSample: sampleRecord(of("__name__", "up", "a", "1"), api.Sample{T: 7, V: math.Float64frombits(0x7ff0000000000002)}),
			ofConfig: configRecord(m.config, m.loaded),
			ofActive: activeRecord(m.courses),
			ofBlocks: blocksRecord([]int{1, 2, 300}),
		}[kind]
		if b[0] != kind || !read(b[1:]) {
			t.Errorf("%d: %q", kind, b)
		}
		for n := 1; n < len(b); n++ {
			if read(b[1:n]) {
				t.Errorf("%d: %q", kind, b[:n])
			}
		}
		if read(append(b[1:len(b):len(b)], 0)) {
			t.Errorf("%d: a byte more", kind)
		}
	}
}

func labelsText(l []api.Label) string { return fmt.Sprint(l) }

// The alerts of other groups than there are play no part.
func TestRecords_OtherGroups(t *testing.T) {
	m := loaded(t, down)
	wrote(t, m, "up 0\n")
	ticks(t, m, 0)
	b := activeRecord(m.courses)[1:]
	for i, groups := range [][]api.Group{nil, {{Name: "g", Every: 1}}, {m.config.Groups[0], m.config.Groups[0]}, {{Rules: []api.Rule{{Record: true, Name: "x", Expr: "1"}}}}} {
		if l, ok := readActive(b, groups); ok {
			t.Error(i, l)
		}
	}
	if _, ok := readActive(b, m.config.Groups); !ok {
		t.Error("its own")
	}
	// Nor do alerts that can not be: this one has no labels.
	if l, ok := readActive([]byte("\x00\x00\x01\x00\x01\x00\x01\x01"+"12345678"), m.config.Groups); ok {
		t.Error(l)
	}
}
