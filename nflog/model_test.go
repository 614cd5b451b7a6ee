package nflog

import (
	"cmp"
	"encoding/binary"
	"fmt"
	"math/rand"
	"slices"
	"sort"
	"strings"
	"testing"
	"unicode/utf8"

	"tocsin/api"
	"tocsin/labels"
)

const (
	maxTime = int64(1) << 50
	maxSpan = int64(1) << 40
)

// of answers the labels of names and values, as they stand.
func of(words ...string) []api.Label {
	var l []api.Label
	for i := 0; i < len(words); i += 2 {
		l = append(l, api.Label{Name: words[i], Value: words[i+1]})
	}
	return l
}

// many answers n labels, rising.
func many(n int) []api.Label {
	var l []api.Label
	for i := range n {
		l = append(l, api.Label{Name: fmt.Sprintf("l%03d", i), Value: "v"})
	}
	return l
}

// sets answers the label sets {a=value}, as they stand.
func sets(values ...string) [][]api.Label {
	var l [][]api.Label
	for _, v := range values {
		l = append(l, of("a", v))
	}
	return l
}

// several answers n label sets, rising.
func several(n int) [][]api.Label {
	var l [][]api.Label
	for i := range n {
		l = append(l, of("a", fmt.Sprintf("%05d", i)))
	}
	return l
}

// wrongSets are lists that are no right label set.
func wrongSets() [][]api.Label {
	return [][]api.Label{many(17), of("1", "a"), of("", "a"), of("a:b", "1"), of(strings.Repeat("n", 65), "1"), of("a", ""), of("a", strings.Repeat("v", 257)), of("a", "\xff"), of("b", "1", "a", "1"), of("a", "1", "a", "1"), of("a", "1", "b", "")}
}

// wrongLists are lists that no mark may have: with what is no right label set, and such that do not rise.
func wrongLists() [][][]api.Label {
	l := [][][]api.Label{sets("1", "1"), sets("2", "1"), sets("1", "3", "2"), sets("10", "2", "2"), {nil, nil}, {of("a", "1"), nil}, {of("a", "1", "b", "1"), of("a", "1")}, {of("b", "1"), of("a", "2")}, append(several(499), of("a", "00498"))}
	for _, set := range wrongSets() {
		l = append(l, [][]api.Label{set}, [][]api.Label{of("A", "0"), set}, [][]api.Label{set, of("z", "9")})
	}
	return l
}

// rightLists are lists that a mark may have.
func rightLists() [][][]api.Label {
	return [][][]api.Label{nil, {}, {nil}, {{}}, sets("1"), sets("1", "10", "2"), {nil, of("a", "1")}, {of("B", "1"), of("a", "1"), of("a", "1", "b", "1"), of("a", "1", "b", "2"), of("a", "2"), of("b", "0")}, {many(16)}, {of(strings.Repeat("n", 64), strings.Repeat("v", 256))}, {of("__name__", "up", "a", "é\"\n\x00")}, several(500)}
}

// mark answers a mark of the receiver team and the key k.
func mark(at int64, firing, resolved [][]api.Label) api.Mark {
	return api.Mark{Receiver: "team", Key: "k", At: at, Firing: firing, Resolved: resolved}
}

// at answers a mark of a receiver and a key, of which {a="1"} fires.
func at(receiver, key string, at int64) api.Mark {
	return api.Mark{Receiver: receiver, Key: key, At: at, Firing: sets("1")}
}

func sameSets(a, b [][]api.Label) bool {
	return slices.EqualFunc(a, b, func(x, y []api.Label) bool { return slices.Equal(x, y) })
}

func copySetsModel(l [][]api.Label) [][]api.Label {
	var out [][]api.Label
	for _, set := range l {
		out = append(out, slices.Clone(set))
	}
	return out
}

func copyMark(m api.Mark) api.Mark {
	m.Firing, m.Resolved = copySetsModel(m.Firing), copySetsModel(m.Resolved)
	return m
}

func sameMark(a, b api.Mark) bool {
	return a.Receiver == b.Receiver && a.Key == b.Key && a.At == b.At && sameSets(a.Firing, b.Firing) && sameSets(a.Resolved, b.Resolved)
}

func sameMarks(a, b []api.Mark) bool { return slices.EqualFunc(a, b, sameMark) }

func sameRecords(a, b [][]byte) bool {
	return slices.EqualFunc(a, b, func(x, y []byte) bool { return string(x) == string(y) })
}

// isZero: is it the zero value, its lists nil?
func isZero(m api.Mark) bool {
	return m.Receiver == "" && m.Key == "" && m.At == 0 && m.Firing == nil && m.Resolved == nil
}

// compareSets: the page's order of label sets.
func compareSets(a, b []api.Label) int {
	return slices.CompareFunc(a, b, func(x, y api.Label) int {
		return cmp.Or(strings.Compare(x.Name, y.Name), strings.Compare(x.Value, y.Value))
	})
}

func rightSet(l []api.Label) bool {
	e, _ := labels.Right(l)
	return e == api.OK
}

// rightModel: the words of the chapter.
func rightModel(m api.Mark) api.Errno {
	text := func(s string, most int) bool { return len(s) >= 1 && len(s) <= most && utf8.ValidString(s) }
	if !text(m.Receiver, 64) {
		return api.ErrReceiver
	}
	if !text(m.Key, 65536) {
		return api.ErrName
	}
	if m.At < 0 || m.At > maxTime {
		return api.ErrArg
	}
	lists := [][][]api.Label{m.Firing, m.Resolved}
	for _, l := range lists {
		if len(l) > 500 {
			return api.ErrFull
		}
	}
	for _, l := range lists {
		for i, set := range l {
			if !rightSet(set) || i > 0 && compareSets(l[i-1], set) != -1 {
				return api.ErrLabel
			}
		}
	}
	return api.OK
}

func withinModel(a, b [][]api.Label) bool {
	for _, set := range a {
		if !slices.ContainsFunc(b, func(other []api.Label) bool { return slices.Equal(set, other) }) {
			return false
		}
	}
	return true
}

// needsModel goes by the five steps of the words.
func needsModel(m api.Mark, has bool, now, repeat int64, firing, resolved [][]api.Label) (bool, api.Errno) {
	if now < 0 || now > maxTime || repeat < 1 || repeat > maxSpan {
		return false, api.ErrArg
	}
	for _, set := range slices.Concat(firing, resolved) {
		if !rightSet(set) {
			return false, api.ErrLabel
		}
	}
	if !has { // 1
		return len(firing) > 0, api.OK
	}
	if e := rightModel(m); e != api.OK {
		return false, e
	}
	if !withinModel(firing, m.Firing) { // 2
		return true, api.OK
	}
	if len(firing) == 0 { // 3
		return len(m.Firing) > 0, api.OK
	}
	if !withinModel(resolved, m.Resolved) { // 4
		return true, api.OK
	}
	return m.At <= now-repeat, api.OK // 5
}

// recordModel writes any mark.
func recordModel(m api.Mark) []byte {
	var b []byte
	text := func(s string) { b = append(binary.AppendUvarint(b, uint64(len(s))), s...) }
	text(m.Receiver)
	text(m.Key)
	b = binary.AppendVarint(b, m.At)
	for _, l := range [][][]api.Label{m.Firing, m.Resolved} {
		b = binary.AppendUvarint(b, uint64(len(l)))
		for _, set := range l {
			b = binary.AppendUvarint(b, uint64(len(set)))
			for _, one := range set {
				text(one.Name)
				text(one.Value)
			}
		}
	}
	return b
}

// logModel goes by the words of the chapter, over a list by Receiver, then Key.
type logModel struct {
	list []api.Mark
}

func (l *logModel) find(receiver, key string) int {
	return slices.IndexFunc(l.list, func(m api.Mark) bool { return m.Receiver == receiver && m.Key == key })
}

// lay lays a mark down, whatever stands there.
func (l *logModel) lay(m api.Mark) api.Errno {
	if i := l.find(m.Receiver, m.Key); i >= 0 {
		l.list[i] = copyMark(m)
		return api.OK
	}
	if len(l.list) == 500 {
		return api.ErrFull
	}
	l.list = append(l.list, copyMark(m))
	sort.Slice(l.list, func(i, j int) bool {
		a, b := l.list[i], l.list[j]
		return a.Receiver < b.Receiver || a.Receiver == b.Receiver && a.Key < b.Key
	})
	return api.OK
}

func (l *logModel) put(m api.Mark) api.Errno {
	if e := rightModel(m); e != api.OK {
		return e
	}
	if i := l.find(m.Receiver, m.Key); i >= 0 && l.list[i].At > m.At {
		return api.ErrOld
	}
	return l.lay(m)
}

func (l *logModel) sweep(now, keep int64) (int, api.Errno) {
	if now < 0 || now > maxTime || keep < 0 || keep > maxSpan {
		return 0, api.ErrArg
	}
	var stay []api.Mark
	for _, m := range l.list {
		if m.At > now-keep {
			stay = append(stay, m)
		}
	}
	gone := len(l.list) - len(stay)
	l.list = stay
	return gone, api.OK
}

func (l *logModel) records() [][]byte {
	var out [][]byte
	for _, m := range l.list {
		out = append(out, recordModel(m))
	}
	return out
}

// both is a log and its model, to which the same is done.
type both struct {
	t *testing.T
	l *Log
	m *logModel
}

func newBoth(t *testing.T) both { return both{t, New(), &logModel{}} }

// tells holds all that the log tells, and changes nothing, against the model.
func (x both) tells() {
	x.t.Helper()
	if all := slices.Collect(x.l.All()); !sameMarks(all, x.m.list) || x.l.Len() != len(x.m.list) {
		x.t.Errorf("All %v, Len %d; want %v", all, x.l.Len(), x.m.list)
	}
	if got := x.l.Records(); !sameRecords(got, x.m.records()) {
		x.t.Errorf("Records %q; want %q", got, x.m.records())
	}
	for _, m := range x.m.list {
		if got, is := x.l.Find(m.Receiver, m.Key); !is || !sameMark(got, m) {
			x.t.Errorf("Find %v, %v; want %v", got, is, m)
		}
	}
}

func (x both) put(m api.Mark) api.Errno {
	x.t.Helper()
	before := copyMark(m)
	e := x.l.Put(m)
	if want := x.m.put(m); e != want {
		x.t.Errorf("Put(%v) = %d; want %d", m, e, want)
	}
	if !sameMark(m, before) {
		x.t.Error("changed", m)
	}
	x.tells()
	return e
}

func (x both) sweep(now, keep int64) (int, api.Errno) {
	x.t.Helper()
	n, e := x.l.Sweep(now, keep)
	if want, wantE := x.m.sweep(now, keep); n != want || e != wantE {
		x.t.Errorf("Sweep(%d, %d) = %d, %d; want %d, %d", now, keep, n, e, want, wantE)
	}
	x.tells()
	return n, e
}

func (x both) needs(receiver, key string, now, repeat int64, firing, resolved [][]api.Label) bool {
	x.t.Helper()
	var m api.Mark
	i := x.m.find(receiver, key)
	if i >= 0 {
		m = x.m.list[i]
	}
	want, wantE := needsModel(m, i >= 0, now, repeat, firing, resolved)
	got, e := x.l.Needs(receiver, key, now, repeat, firing, resolved)
	if got != want || e != wantE {
		x.t.Errorf("Needs(%q, %q, %d, %d, %v, %v) = %v, %d; want %v, %d, of %v", receiver, key, now, repeat, firing, resolved, got, e, want, wantE, m)
	}
	return got
}

// openModel: what comes of records whose marks are known; nil stands for what is no record.
func openModel(l []*api.Mark) (*logModel, api.Errno, int) {
	m := &logModel{}
	for i, one := range l {
		e := api.ErrForm
		if one != nil && rightModel(*one) == api.OK {
			e = m.lay(*one)
		}
		if e != api.OK {
			return nil, e, i
		}
	}
	return m, api.OK, 0
}

// opened opens a log of the records of marks, and holds it against the words.
func opened(t *testing.T, l ...*api.Mark) both {
	t.Helper()
	var records [][]byte
	for _, m := range l {
		b := []byte("\x00")
		if m != nil {
			b = recordModel(*m)
		}
		records = append(records, b)
	}
	before := make([][]byte, len(records))
	for i := range records {
		before[i] = slices.Clone(records[i])
	}
	got, e, at := Open(records)
	want, wantE, wantAt := openModel(l)
	if e != wantE || at != wantAt || (got == nil) != (want == nil) {
		t.Errorf("Open = %v, %d, %d; want %d, %d", got, e, at, wantE, wantAt)
	}
	if !sameRecords(records, before) {
		t.Error("changed", records)
	}
	x := both{t, got, want}
	if got != nil && want != nil {
		x.tells()
	}
	return x
}

// source answers random things.
type source struct{ *rand.Rand }

func newSource(seed int64) source { return source{rand.New(rand.NewSource(seed))} }

// some answers a few label sets, in any order, some of them twice.
func (s source) some() [][]api.Label {
	var l [][]api.Label
	for range s.Intn(4) {
		l = append(l, of("a", fmt.Sprint(s.Intn(4))))
	}
	return l
}

// list answers a few label sets, rising, each once.
func (s source) list() [][]api.Label {
	var l [][]api.Label
	for i := range 4 {
		if s.Intn(2) == 0 {
			l = append(l, of("a", fmt.Sprint(i)))
		}
	}
	return l
}

// name answers one of few texts; of them no order is that of their lengths.
func (s source) name() string { return []string{"a", "aa", "b", "ab", "ä", "B"}[s.Intn(6)] }

// mark answers a mark of one of few receivers and keys; seldom it is at fault.
func (s source) mark(now int64) api.Mark {
	m := api.Mark{Receiver: s.name(), Key: s.name(), At: now + int64(s.Intn(20)) - 10, Firing: s.list(), Resolved: s.list()}
	switch s.Intn(30) {
	case 0:
		wrong := wrongLists()
		m.Firing = wrong[s.Intn(len(wrong))]
	case 1:
		m.Receiver = []string{"", "\xff", strings.Repeat("r", 65)}[s.Intn(3)]
	case 2:
		m.Key = []string{"", "\xff", strings.Repeat("k", 65537)}[s.Intn(3)]
	case 3:
		m.At = []int64{-1, 0, maxTime, maxTime + 1}[s.Intn(4)]
	}
	return m
}
