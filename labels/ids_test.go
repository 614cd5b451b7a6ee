package labels

import (
	"fmt"
	"math"
	"math/rand"
	"slices"
	"testing"

	"tocsin/api"
)

// Two values that give the label a one hash.
const (
	oneHashA = "wMHBwUJL1Ab"
	oneHashB = "6ME0uiKqjPh"
)

// numbering is the model: the sets in the order of their numbers.
type numbering struct {
	ids  []int
	sets [][]api.Label
	last int
}

func (m *numbering) find(l []api.Label) int {
	return slices.IndexFunc(m.sets, func(s []api.Label) bool { return slices.Equal(s, l) })
}

func (m *numbering) put(l []api.Label) (int, api.Errno) {
	if e, _ := modelRight(l); e != api.OK {
		return 0, e
	}
	if i := m.find(l); i >= 0 {
		return m.ids[i], api.OK
	}
	if len(m.ids) == 1000 {
		return 0, api.ErrFull
	}
	m.last++
	m.ids = append(m.ids, m.last)
	m.sets = append(m.sets, slices.Clone(l))
	return m.last, api.OK
}

func (m *numbering) drop(l []api.Label) api.Errno {
	i := m.find(l)
	if i < 0 {
		return api.ErrNone
	}
	m.ids = slices.Delete(m.ids, i, i+1)
	m.sets = slices.Delete(m.sets, i, i+1)
	return api.OK
}

// checkIds: the numbering is as the model, and all that it answers may be written into.
func checkIds(t *testing.T, x *Ids, m *numbering, said string) {
	t.Helper()
	if x.Len() != len(m.ids) {
		t.Fatalf("%s: Len %d, not %d", said, x.Len(), len(m.ids))
	}
	listed := 0
	for _, ids := range x.byHash {
		listed += len(ids)
	}
	if listed != len(m.ids) {
		t.Fatalf("%s: %d numbers by their hashes, not %d", said, listed, len(m.ids))
	}
	i := 0
	for id, set := range x.All() {
		if i == len(m.ids) || id != m.ids[i] || !same(set, m.sets[i]) {
			t.Fatalf("%s: All tells %d, %q as number %d", said, id, set, i)
		}
		spoil(set)
		i++
	}
	if i != len(m.ids) {
		t.Fatalf("%s: All tells %d, not %d", said, i, len(m.ids))
	}
	for i, id := range m.ids {
		if n, ok := x.Find(m.sets[i]); n != id || !ok {
			t.Fatalf("%s: Find(%q): %d, %v, not %d", said, m.sets[i], n, ok, id)
		}
		set, e := x.Labels(id)
		if !same(set, m.sets[i]) || e != api.OK {
			t.Fatalf("%s: Labels(%d): %q, %d, not %q", said, id, set, e, m.sets[i])
		}
		spoil(set)
	}
	for id := range m.last + 2 {
		if slices.Contains(m.ids, id) {
			continue
		}
		if set, e := x.Labels(id); set != nil || e != api.ErrNone {
			t.Fatalf("%s: Labels(%d): %q, %d", said, id, set, e)
		}
	}
}

func spoil(set []api.Label) {
	_ = append(set, api.Label{Name: "!"})
	for i := range set {
		set[i] = api.Label{Name: "!", Value: "!"}
	}
}

func TestP4_7_NilIds(t *testing.T) {
	var x *Ids
	for _, l := range [][]api.Label{nil, of("a", "1"), of("-", "")} {
		if n, e := x.Put(l); n != 0 || e != api.ErrNil {
			t.Error("Put", n, e)
		}
		if n, ok := x.Find(l); n != 0 || ok {
			t.Error("Find", n, ok)
		}
		if e := x.Drop(l); e != api.ErrNil {
			t.Error("Drop", e)
		}
	}
	if l, e := x.Labels(1); l != nil || e != api.ErrNil {
		t.Error("Labels", l, e)
	}
	if x.Len() != 0 {
		t.Error("Len")
	}
	for id, l := range x.All() {
		t.Error("All", id, l)
	}
}

// An Ids that NewIds has not made is one without sets.
func TestP4_7_ZeroIds(t *testing.T) {
	x, m := &Ids{}, &numbering{}
	checkIds(t, x, m, "zero")
	if e := x.Drop(nil); e != api.ErrNone {
		t.Error("Drop", e)
	}
	if n, e := x.Put(of("a", "1")); n != 1 || e != api.OK {
		t.Error("Put", n, e)
	}
	m.put(of("a", "1"))
	checkIds(t, x, m, "put")
}

func TestP4_7_PutFindDrop(t *testing.T) {
	x, m := NewIds(), &numbering{}
	checkIds(t, x, m, "new")
	if n, ok := x.Find(nil); n != 0 || ok {
		t.Error("Find of none", n, ok)
	}
	for _, l := range anyLists() {
		want, e := m.put(l)
		if n, got := x.Put(l); n != want || got != e {
			t.Fatalf("Put(%q): %d, %d, not %d, %d", l, n, got, want, e)
		}
	}
	checkIds(t, x, m, "put")
	for _, l := range anyLists() {
		n, ok := x.Find(l)
		if i := m.find(l); ok != (i >= 0) || !ok && n != 0 {
			t.Fatalf("Find(%q): %d, %v", l, n, ok)
		}
	}
	for _, id := range []int{math.MinInt, -1, 0, m.last + 1, math.MaxInt} {
		if l, e := x.Labels(id); l != nil || e != api.ErrNone {
			t.Errorf("Labels(%d): %q, %d", id, l, e)
		}
	}
	for _, l := range anyLists() {
		if e, want := x.Drop(l), m.drop(l); e != want {
			t.Fatalf("Drop(%q): %d, not %d", l, e, want)
		}
	}
	checkIds(t, x, m, "dropped")
	if len(x.byHash) != 0 || len(x.sets) != 0 {
		t.Error("something is kept of sets that are gone")
	}
}

// The set without labels is one as any other.
func TestP4_7_TheEmptySet(t *testing.T) {
	x := NewIds()
	if n, e := x.Put(nil); n != 1 || e != api.OK {
		t.Error(n, e)
	}
	if n, e := x.Put([]api.Label{}); n != 1 || e != api.OK {
		t.Error(n, e)
	}
	if l, e := x.Labels(1); len(l) != 0 || e != api.OK {
		t.Error(l, e)
	}
	if e := x.Drop([]api.Label{}); e != api.OK || x.Len() != 0 {
		t.Error(e)
	}
}

func TestP4_7_NumbersAreNeverUsedAgain(t *testing.T) {
	x := NewIds()
	for want := 1; want < 50; want++ {
		if n, e := x.Put(of("a", "1")); n != want || e != api.OK {
			t.Fatal(n, e, want)
		}
		if n, e := x.Put(of("a", "1")); n != want || e != api.OK {
			t.Fatal("again", n, e, want)
		}
		// What is refused takes no number.
		if n, e := x.Put(of("a", "")); n != 0 || e != api.ErrLabel {
			t.Fatal("refused", n, e)
		}
		if e := x.Drop(of("a", "1")); e != api.OK {
			t.Fatal(e)
		}
		if e := x.Drop(of("a", "1")); e != api.ErrNone {
			t.Fatal("twice", e)
		}
		if l, e := x.Labels(want); l != nil || e != api.ErrNone {
			t.Fatal("gone", l, e)
		}
	}
}

func TestP4_7_MaxSeries(t *testing.T) {
	x, m := NewIds(), &numbering{}
	for i := range 1000 {
		l := of("n", fmt.Sprint(i))
		if n, e := x.Put(l); n != i+1 || e != api.OK {
			t.Fatal(n, e)
		}
		m.put(l)
	}
	if n, e := x.Put(of("n", "1000")); n != 0 || e != api.ErrFull {
		t.Error("one more", n, e)
	}
	if n, e := x.Put(of("n", "")); n != 0 || e != api.ErrLabel {
		t.Error("a wrong one", n, e)
	}
	if n, e := x.Put(of("n", "999")); n != 1000 || e != api.OK {
		t.Error("one that is there", n, e)
	}
	checkIds(t, x, m, "full")
	x.Drop(of("n", "5"))
	m.drop(of("n", "5"))
	if n, e := x.Put(of("n", "1000")); n != 1001 || e != api.OK {
		t.Error("room for one", n, e)
	}
	m.put(of("n", "1000"))
	if n, e := x.Put(of("n", "5")); n != 0 || e != api.ErrFull {
		t.Error("one more", n, e)
	}
	checkIds(t, x, m, "full again")
}

func TestP4_12_OneHash(t *testing.T) {
	a, b := of("a", oneHashA), of("a", oneHashB)
	if Hash(a) != Hash(b) {
		t.Fatal("these have one hash", Hash(a), Hash(b))
	}
	behindA, behindB := append(of("a", oneHashA), of("b", "1")...), append(of("a", oneHashB), of("b", "1")...)
	for _, pair := range [][2][]api.Label{{a, b}, {b, a}, {behindA, behindB}} {
		x, m := NewIds(), &numbering{}
		if n, e := x.Put(pair[0]); n != 1 || e != api.OK {
			t.Fatal(n, e)
		}
		m.put(pair[0])
		if n, ok := x.Find(pair[1]); n != 0 || ok {
			t.Error("found by its hash alone", n)
		}
		if e := x.Drop(pair[1]); e != api.ErrNone {
			t.Error("dropped by its hash alone", e)
		}
		if n, e := x.Put(pair[1]); n != 2 || e != api.OK {
			t.Error("numbered by its hash alone", n, e)
		}
		m.put(pair[1])
		checkIds(t, x, m, "both")
		for range 3 {
			if e := x.Drop(pair[0]); e != api.OK {
				t.Error(e)
			}
			m.drop(pair[0])
			checkIds(t, x, m, "the other one")
			x.Put(pair[0])
			m.put(pair[0])
			checkIds(t, x, m, "both again")
		}
		if x.Drop(pair[0]) != api.OK || x.Drop(pair[1]) != api.OK || x.Len() != 0 {
			t.Error("both gone")
		}
	}
}

func TestP4_7_AsTheModel(t *testing.T) {
	r := rand.New(rand.NewSource(47))
	for range 50 {
		x, m := NewIds(), &numbering{}
		for range 200 {
			l := of("a", []string{oneHashA, oneHashB, "1", "2", "", "\xff"}[r.Intn(6)])
			if r.Intn(3) == 0 {
				l = append(l, of("b", fmt.Sprint(r.Intn(3)))...)
			}
			if r.Intn(2) == 0 {
				want, e := m.put(l)
				if n, got := x.Put(l); n != want || got != e {
					t.Fatalf("Put(%q): %d, %d, not %d, %d", l, n, got, want, e)
				}
			} else if e, want := x.Drop(l), m.drop(l); e != want {
				t.Fatalf("Drop(%q): %d, not %d", l, e, want)
			}
			checkIds(t, x, m, "behind a call")
		}
	}
}

// All is what was there when it was asked, as often as it is gone through, and ends where the caller ends it.
func TestP4_7_All(t *testing.T) {
	x, m := NewIds(), &numbering{}
	for i := range 30 {
		x.Put(of("n", fmt.Sprint(i)))
		m.put(of("n", fmt.Sprint(i)))
	}
	all := x.All()
	for range 2 {
		i := 0
		for id, set := range all {
			if id != m.ids[i] || !same(set, m.sets[i]) {
				t.Fatalf("%d, %q", id, set)
			}
			spoil(set)
			i++
		}
	}
	seen := 0
	for id := range all {
		seen = id
		if id == 7 {
			break
		}
	}
	if seen != 7 {
		t.Error("ended at", seen)
	}
	count := 0
	for id, set := range x.All() {
		x.Drop(m.sets[id-1])
		x.Put(append(set, of("z", "1")...))
		count++
	}
	if count != 30 {
		t.Error("went through", count)
	}
	var ids []int
	for id := range x.All() {
		ids = append(ids, id)
	}
	if len(ids) != 30 || ids[0] != 31 || ids[29] != 60 || !slices.IsSorted(ids) {
		t.Error(ids)
	}
}

// A set that is handed in is not kept.
func TestP4_7_Memory(t *testing.T) {
	x := NewIds()
	l := append(make([]api.Label, 0, 8), of("a", "1", "b", "2")...)
	x.Put(l)
	spoil(l)
	if n, ok := x.Find(of("a", "1", "b", "2")); n != 1 || !ok {
		t.Error("Find", n, ok)
	}
	if set, e := x.Labels(1); !same(set, of("a", "1", "b", "2")) || e != api.OK {
		t.Error("Labels", set, e)
	}
}

// One numbering knows nothing of another one.
func TestP4_7_TwoNumberings(t *testing.T) {
	x, y := NewIds(), NewIds()
	x.Put(of("a", "1"))
	if n, ok := y.Find(of("a", "1")); n != 0 || ok || y.Len() != 0 {
		t.Error(n, ok)
	}
	if n, e := y.Put(of("b", "1")); n != 1 || e != api.OK {
		t.Error(n, e)
	}
}
