package block

import (
	"encoding/binary"
	"hash/crc32"
	"math"
	"slices"
	"sort"
	"strings"
	"testing"

	"tocsin/api"
	"tocsin/chunk"
	"tocsin/labels"
)

// of: labels of names and values in turn.
func of(texts ...string) []api.Label {
	var l []api.Label
	for i := 0; i+1 < len(texts); i += 2 {
		l = append(l, api.Label{Name: texts[i], Value: texts[i+1]})
	}
	return l
}

func at(t int64, v float64) api.Sample { return api.Sample{T: t, V: v} }

// every answers n samples, each ten behind the one ahead.
func every(n int) []api.Sample {
	var l []api.Sample
	for i := range n {
		l = append(l, at(int64(10*i+10), float64(i%7)))
	}
	return l
}

func series1(samples []api.Sample, texts ...string) api.Series {
	return api.Series{Labels: of(texts...), Samples: samples}
}

func u(n int) []byte { return binary.AppendUvarint(nil, uint64(n)) }

// modelFrame: a frame, by the words of chapter 1.
func modelFrame(content []byte) []byte {
	b := u(len(content))
	b = binary.LittleEndian.AppendUint32(b, crc32.Checksum(content, crc32.MakeTable(crc32.Castagnoli)))
	return append(b, content...)
}

func modelLabels(l []api.Label) []byte {
	b := u(len(l))
	for _, one := range l {
		b = slices.Concat(b, u(len(one.Name)), []byte(one.Name), u(len(one.Value)), []byte(one.Value))
	}
	return b
}

// modelContent: what stands in a series' frame; the chunks are those of 120 samples each.
func modelContent(s api.Series) []byte {
	var chunks [][]byte
	for rest := s.Samples; len(rest) > 0; rest = rest[min(120, len(rest)):] {
		b, e, _ := chunk.Encode(rest[:min(120, len(rest))])
		if e != api.OK {
			panic("no chunk")
		}
		chunks = append(chunks, b)
	}
	b := slices.Concat(modelLabels(s.Labels), u(len(chunks)))
	for _, c := range chunks {
		b = slices.Concat(b, u(len(c)), c)
	}
	return b
}

// sorted: the series rising by label sets.
func sorted(l []api.Series) []api.Series {
	l = slices.Clone(l)
	sort.Slice(l, func(i, j int) bool { return labels.Compare(l[i].Labels, l[j].Labels) < 0 })
	return l
}

func times(l []api.Series) []int64 {
	var out []int64
	for _, s := range l {
		for _, one := range s.Samples {
			out = append(out, one.T)
		}
	}
	return out
}

// modelFirst: what stands in the first frame.
func modelFirst(l []api.Series) []byte {
	all := times(l)
	if len(all) == 0 {
		return []byte{0, 0, 0, 0}
	}
	return slices.Concat(u(len(l)), u(len(all)), u(int(slices.Min(all))), u(int(slices.Max(all))))
}

// modelBytes: the bytes of right series, by the words of the document.
func modelBytes(l []api.Series) []byte {
	parts := [][]byte{[]byte("TOCBLK01"), modelFrame(modelFirst(l))}
	for _, s := range sorted(l) {
		parts = append(parts, modelFrame(modelContent(s)))
	}
	return slices.Concat(parts...)
}

// modelBuild: Build by the words of the document.
func modelBuild(l []api.Series) ([]byte, api.Errno, int) {
	if len(l) > 1000 {
		return nil, api.ErrFull, 0
	}
	for i, s := range l {
		if e, _ := labels.Right(s.Labels); e != api.OK {
			return nil, e, i
		}
		if slices.ContainsFunc(l[:i], func(other api.Series) bool { return slices.Equal(other.Labels, s.Labels) }) {
			return nil, api.ErrTwice, i
		}
		if len(s.Samples) == 0 {
			return nil, api.ErrNone, i
		}
		for j, one := range s.Samples {
			if one.T < 0 || one.T > 1<<50 {
				return nil, api.ErrArg, i
			}
			if j > 0 && one.T <= s.Samples[j-1].T {
				return nil, api.ErrOld, i
			}
		}
		if len(modelContent(s)) > 65536 {
			return nil, api.ErrSize, i
		}
	}
	b := modelBytes(l)
	if len(b) > 1<<20 {
		return nil, api.ErrSize, 0
	}
	return b, api.OK, 0
}

// modelMerge: at each time the sample of the last list that has it.
func modelMerge(lists ...[]api.Series) []api.Series {
	sets := map[string][]api.Label{}
	samples := map[string]map[int64]float64{}
	for _, l := range lists {
		for _, s := range l {
			key := string(modelLabels(s.Labels))
			sets[key] = s.Labels
			if samples[key] == nil {
				samples[key] = map[int64]float64{}
			}
			for _, one := range s.Samples {
				samples[key][one.T] = one.V
			}
		}
	}
	var out []api.Series
	for key, set := range sets {
		s := api.Series{Labels: set}
		for t, v := range samples[key] {
			s.Samples = append(s.Samples, at(t, v))
		}
		slices.SortFunc(s.Samples, func(a, b api.Sample) int { return int(a.T - b.T) })
		out = append(out, s)
	}
	return sorted(out)
}

func modelTrim(l []api.Series, from int64) []api.Series {
	var out []api.Series
	for _, s := range l {
		left := api.Series{Labels: s.Labels}
		for _, one := range s.Samples {
			if one.T >= from {
				left.Samples = append(left.Samples, one)
			}
		}
		if len(left.Samples) > 0 {
			out = append(out, left)
		}
	}
	return out
}

func same(a, b []api.Series) bool {
	return slices.EqualFunc(a, b, func(x, y api.Series) bool {
		return slices.Equal(x.Labels, y.Labels) && sameSamples(x.Samples, y.Samples)
	})
}

func sameSamples(a, b []api.Sample) bool {
	return slices.EqualFunc(a, b, func(x, y api.Sample) bool {
		return x.T == y.T && math.Float64bits(x.V) == math.Float64bits(y.V)
	})
}

func mustBuild(t testing.TB, l []api.Series) []byte {
	t.Helper()
	b, e, i := Build(l)
	if e != api.OK || i != 0 {
		t.Fatal("Build", e, i)
	}
	return b
}

func mustOpen(t testing.TB, b []byte) *Block {
	t.Helper()
	x, e := Open(b)
	if e != api.OK || x == nil {
		t.Fatal("Open", e)
	}
	return x
}

func opened(t testing.TB, l []api.Series) *Block {
	t.Helper()
	return mustOpen(t, mustBuild(t, l))
}

// padded answers a series of the labels a to p, with a name and samples, whose frame's content has just size bytes; the samples alone must have fewer.
func padded(t testing.TB, name string, samples []api.Sample, size int) api.Series {
	t.Helper()
	s := api.Series{Samples: samples}
	for i := range 15 {
		s.Labels = append(s.Labels, api.Label{Name: string(rune('a' + i)), Value: "x"})
	}
	s.Labels = append(s.Labels, api.Label{Name: "z", Value: name})
	for i := range 15 {
		missing := size - len(modelContent(s))
		if missing < 0 {
			t.Fatal("too long already", missing)
		}
		// A value of more than 127 bytes takes a byte more for its length.
		n := 1 + min(missing, 126)
		if missing > 300 {
			n = 256
		}
		s.Labels[i].Value = strings.Repeat("v", n)
	}
	if len(modelContent(s)) != size {
		t.Fatal("not so long", len(modelContent(s)), size)
	}
	return s
}
