package silence

import (
	"encoding/binary"
	"fmt"
	"math/rand"
	"slices"
	"sort"
	"strings"
	"testing"

	"tocsin/api"
	"tocsin/labels"
	"tocsin/match"
)

const (
	maxTime = int64(1) << 50
	maxSpan = int64(1) << 40
	maxAt   = maxTime + maxSpan // the last time at which a silence may begin, or end
)

// of answers the labels of names and values, as they stand.
func of(words ...string) []api.Label {
	var l []api.Label
	for i := 0; i < len(words); i += 2 {
		l = append(l, api.Label{Name: words[i], Value: words[i+1]})
	}
	return l
}

// many answers n labels, rising.
func many(n int) []api.Label {
	var l []api.Label
	for i := range n {
		l = append(l, api.Label{Name: fmt.Sprintf("l%03d", i), Value: "v"})
	}
	return l
}

// is answers the matcher of a name and a value.
func is(op int, name, value string) api.Matcher {
	return api.Matcher{Op: op, Name: name, Value: value}
}

// just answers the matchers a="value".
func just(value string) []api.Matcher { return []api.Matcher{is(api.MEq, "a", value)} }

// times answers n matchers a="1".
func times(n int) []api.Matcher { return slices.Repeat(just("1"), n) }

// hush answers a silence of a="value".
func hush(id int64, value string, from, to int64) api.Silence {
	return api.Silence{Id: id, Matchers: just(value), From: from, To: to}
}

// with answers a silence of these matchers.
func with(l []api.Matcher, from, to int64) api.Silence {
	return api.Silence{Matchers: l, From: from, To: to}
}

// wrongSets are lists that are no right label set.
func wrongSets() [][]api.Label {
	return [][]api.Label{many(17), of("1", "a"), of("", "a"), of("a:b", "1"), of("a", ""), of("a", strings.Repeat("v", 257)), of("a", "\xff"), of("b", "1", "a", "1"), of("a", "1", "a", "1"), of("a", "1", "b", "")}
}

// wrongMatchers are lists of matchers that can not be a silence's, and Add's error of each.
func wrongMatchers() map[api.Errno][][]api.Matcher {
	one := is(api.MEq, "a", "1")
	return map[api.Errno][][]api.Matcher{
		api.ErrFull:  {times(17), append(times(16), is(0, "", "")), times(1000)},
		api.ErrOp:    {{is(0, "a", "1")}, {is(5, "a", "1")}, {is(-1, "a", "1")}, {one, is(9, "", "\xff")}},
		api.ErrName:  {{is(api.MEq, "", "1")}, {is(api.MEq, "1a", "1")}, {one, is(api.MEq, "a:b", "1")}, {is(api.MEq, strings.Repeat("n", 65), "1")}},
		api.ErrUtf:   {{is(api.MEq, "a", "\xff")}, {one, is(api.MRe, "a", "\xc0\x80")}},
		api.ErrSize:  {{is(api.MNe, "a", strings.Repeat("v", 257))}, {one, is(api.MRe, "a", strings.Repeat("v", 257))}},
		api.ErrRegex: {{is(api.MRe, "a", "(")}, {one, is(api.MNre, "a", "**")}, {is(api.MRe, "a", ""), is(api.MRe, "a", "[")}},
		api.ErrDeep:  {{is(api.MRe, "a", strings.Repeat("(", 51)+"x"+strings.Repeat(")", 51))}},
		api.ErrForm: {nil, {}, {is(api.MEq, "a", "")}, {is(api.MNe, "a", "1")}, {is(api.MRe, "a", ".*")}, {is(api.MNre, "a", ".+")},
			{is(api.MEq, "a", ""), is(api.MNe, "b", "x"), is(api.MRe, "c", "x*"), is(api.MNre, "d", "x+")}},
	}
}

// rightMatchers are lists of matchers that a silence may have.
func rightMatchers() [][]api.Matcher {
	return [][]api.Matcher{
		just("1"), times(16), {is(api.MNe, "a", "")}, {is(api.MRe, "a", ".+")}, {is(api.MNre, "a", ".*")}, {is(api.MNre, "a", "")},
		{is(api.MEq, "a", ""), is(api.MNe, "b", "x"), is(api.MEq, "c", "1")},
		{is(api.MEq, strings.Repeat("n", 64), strings.Repeat("v", 256))},
		{is(api.MRe, "a", "1|2"), is(api.MRe, "a", ".*"), is(api.MNe, "b", "\n\"\\é")},
	}
}

func copySilences(l []api.Silence) []api.Silence {
	out := slices.Clone(l)
	for i := range out {
		out[i].Matchers = slices.Clone(out[i].Matchers)
	}
	return out
}

func sameSilence(a, b api.Silence) bool {
	return a.Id == b.Id && slices.Equal(a.Matchers, b.Matchers) && a.From == b.From && a.To == b.To
}

func sameSilences(a, b []api.Silence) bool { return slices.EqualFunc(a, b, sameSilence) }

func sameRecords(a, b [][]byte) bool {
	return slices.EqualFunc(a, b, func(x, y []byte) bool { return string(x) == string(y) })
}

// recordModel: the bytes of a silence by the words, whatever it is.
func recordModel(x api.Silence) []byte {
	b := binary.AppendVarint(nil, x.Id)
	b = binary.AppendVarint(b, x.From)
	b = binary.AppendVarint(b, x.To)
	b = binary.AppendUvarint(b, uint64(len(x.Matchers)))
	for _, m := range x.Matchers {
		b = binary.AppendUvarint(b, uint64(m.Op))
		b = append(binary.AppendUvarint(b, uint64(len(m.Name))), m.Name...)
		b = append(binary.AppendUvarint(b, uint64(len(m.Value))), m.Value...)
	}
	return b
}

func goneModel(id int64) []byte { return binary.AppendVarint(nil, -id) }

// faultModel: Add's errors but those of the time and ErrFull.
func faultModel(x api.Silence) api.Errno {
	if e, _ := match.Right(x.Matchers); e != api.OK {
		return e
	}
	some := false
	for _, m := range x.Matchers {
		some = some || !match.New(m).Empty()
	}
	if !some {
		return api.ErrForm
	}
	if x.From < 0 || x.From > maxAt || x.To < 0 || x.To > maxAt {
		return api.ErrArg
	}
	return api.OK
}

func canModel(x api.Silence) bool { return faultModel(x) == api.OK && x.From <= x.To }

// storeModel goes by the words of the chapter, over a list by Ids.
type storeModel struct {
	list    []api.Silence
	last    int64
	changed []int64
}

func (m *storeModel) find(id int64) int {
	return slices.IndexFunc(m.list, func(x api.Silence) bool { return x.Id == id })
}

func (m *storeModel) note(id int64) {
	if at := slices.Index(m.changed, id); at >= 0 {
		m.changed = slices.Delete(m.changed, at, at+1)
	}
	m.changed = append(m.changed, id)
}

func (m *storeModel) add(now int64, x api.Silence) (int64, api.Errno) {
	if now < 0 || now > maxTime {
		return 0, api.ErrArg
	}
	if e := faultModel(x); e != api.OK {
		return 0, e
	}
	if x.From < now {
		x.From = now
	}
	if x.To <= now || x.To <= x.From {
		return 0, api.ErrArg
	}
	if len(m.list) == 200 || m.last == maxTime {
		return 0, api.ErrFull
	}
	m.last++
	x.Id = m.last
	m.list = append(m.list, copySilences([]api.Silence{x})...)
	m.note(x.Id)
	return x.Id, api.OK
}

func (m *storeModel) over(now int64, at int) {
	m.list[at].To = now
	if m.list[at].From > now {
		m.list[at].From = now
	}
	m.note(m.list[at].Id)
}

func (m *storeModel) set(now int64, x api.Silence) (int64, api.Errno) {
	if now < 0 || now > maxTime {
		return 0, api.ErrArg
	}
	at := m.find(x.Id)
	if at < 0 {
		return 0, api.ErrNone
	}
	old := m.list[at]
	if old.To <= now {
		return 0, api.ErrState
	}
	active := old.From <= now
	if slices.Equal(x.Matchers, old.Matchers) && (!active || x.From == old.From) {
		if e := faultModel(x); e != api.OK {
			return 0, e
		}
		if !active && x.From < now {
			x.From = now
		}
		if x.To <= now || x.To <= x.From {
			return 0, api.ErrArg
		}
		m.list[at].From, m.list[at].To = x.From, x.To
		m.note(x.Id)
		return x.Id, api.OK
	}
	id, e := m.add(now, x)
	if e == api.OK {
		m.over(now, at)
	}
	return id, e
}

func (m *storeModel) expire(now, id int64) api.Errno {
	at := m.find(id)
	switch {
	case now < 0 || now > maxTime:
		return api.ErrArg
	case at < 0:
		return api.ErrNone
	case m.list[at].To <= now:
		return api.ErrState
	}
	m.over(now, at)
	return api.OK
}

func (m *storeModel) silent(now int64, l []api.Label) ([]int64, api.Errno) {
	if now < 0 || now > maxTime {
		return nil, api.ErrArg
	}
	if e, _ := labels.Right(l); e != api.OK {
		return nil, api.ErrLabel
	}
	var ids []int64
	for _, x := range m.list {
		if all, _ := match.All(x.Matchers, l); all && x.From <= now && now < x.To {
			ids = append(ids, x.Id)
		}
	}
	return ids, api.OK
}

func (m *storeModel) sweep(now, keep int64) (int, api.Errno) {
	if now < 0 || now > maxTime || keep < 0 || keep > maxSpan {
		return 0, api.ErrArg
	}
	var stay []api.Silence
	for _, x := range m.list {
		if x.To <= now-keep {
			m.note(x.Id)
		} else {
			stay = append(stay, x)
		}
	}
	gone := len(m.list) - len(stay)
	m.list = stay
	return gone, api.OK
}

func (m *storeModel) changes() [][]byte {
	var out [][]byte
	for _, id := range m.changed {
		if at := m.find(id); at >= 0 {
			out = append(out, recordModel(m.list[at]))
		} else {
			out = append(out, goneModel(id))
		}
	}
	m.changed = nil
	return out
}

func (m *storeModel) records() [][]byte {
	var out [][]byte
	for _, x := range m.list {
		out = append(out, recordModel(x))
	}
	if m.last > 0 && m.find(m.last) < 0 {
		out = append(out, goneModel(m.last))
	}
	return out
}

// writing is what a record of a test says: a silence, or, with an Id below 0, that one is gone; wrong bytes, if it has some.
type writing struct {
	x     api.Silence
	wrong string
}

func (w writing) bytes() []byte {
	switch {
	case w.wrong != "":
		return []byte(w.wrong)
	case w.x.Id < 0:
		return goneModel(-w.x.Id)
	}
	return recordModel(w.x)
}

// openModel: what comes of records whose meaning is known.
func openModel(l []writing) (*storeModel, api.Errno, int) {
	m := &storeModel{}
	for i, w := range l {
		x := w.x
		isGone := x.Id < 0 && x.Id >= -maxTime
		isSilence := x.Id >= 1 && x.Id <= maxTime && canModel(x)
		if w.wrong != "" || !isGone && !isSilence {
			return nil, api.ErrForm, i
		}
		id := max(x.Id, -x.Id)
		if at := m.find(id); at >= 0 {
			m.list = slices.Delete(m.list, at, at+1)
		}
		if isSilence {
			m.list = append(m.list, x)
		}
		if len(m.list) > 200 {
			return nil, api.ErrFull, i
		}
		m.last = max(m.last, id)
	}
	sort.Slice(m.list, func(i, j int) bool { return m.list[i].Id < m.list[j].Id })
	return m, api.OK, 0
}

// tells holds all that a store tells, but Changed, against its model.
func tells(t *testing.T, s *Store, m *storeModel) bool {
	t.Helper()
	all := slices.Collect(s.All())
	if !sameSilences(all, m.list) || s.Len() != len(m.list) || s.Last() != m.last {
		t.Errorf("All %v, Len %d, Last %d; want %v, %d", all, s.Len(), s.Last(), m.list, m.last)
		return false
	}
	if got := s.Records(); !sameRecords(got, m.records()) {
		t.Errorf("Records %q; want %q", got, m.records())
		return false
	}
	for _, x := range m.list {
		if got, e := s.Get(x.Id); e != api.OK || !sameSilence(got, x) {
			t.Errorf("Get %v, %d; want %v", got, e, x)
			return false
		}
	}
	return true
}

// tellsChanged holds what Changed tells against the model, twice.
func tellsChanged(t *testing.T, s *Store, m *storeModel) [][]byte {
	t.Helper()
	got, want := s.Changed(), m.changes()
	if !sameRecords(got, want) {
		t.Errorf("Changed %q; want %q", got, want)
	}
	if again := s.Changed(); len(again) != 0 {
		t.Errorf("Changed again %q", again)
	}
	return got
}

// both is a store and its model, to which the same is done.
type both struct {
	t *testing.T
	s *Store
	m *storeModel
}

func newBoth(t *testing.T) both { return both{t, New(), &storeModel{}} }

// opened answers a store of records and its model.
func opened(t *testing.T, l ...writing) both {
	t.Helper()
	var records [][]byte
	for _, w := range l {
		records = append(records, w.bytes())
	}
	s, e, at := Open(records)
	m, want, wantAt := openModel(l)
	if e != want || at != wantAt || (s == nil) != (m == nil) {
		t.Fatalf("Open = %d, %d; want %d, %d", e, at, want, wantAt)
	}
	return both{t, s, m}
}

func (b both) add(now int64, x api.Silence) (int64, api.Errno) {
	b.t.Helper()
	before := copySilences([]api.Silence{x})
	id, e := b.s.Add(now, x)
	if want, wantE := b.m.add(now, x); id != want || e != wantE {
		b.t.Errorf("Add(%d, %v) = %d, %d; want %d, %d", now, x, id, e, want, wantE)
	}
	if !sameSilences([]api.Silence{x}, before) {
		b.t.Error("changed", x)
	}
	tells(b.t, b.s, b.m)
	return id, e
}

func (b both) set(now int64, x api.Silence) (int64, api.Errno) {
	b.t.Helper()
	before := copySilences([]api.Silence{x})
	id, e := b.s.Set(now, x)
	if want, wantE := b.m.set(now, x); id != want || e != wantE {
		b.t.Errorf("Set(%d, %v) = %d, %d; want %d, %d", now, x, id, e, want, wantE)
	}
	if !sameSilences([]api.Silence{x}, before) {
		b.t.Error("changed", x)
	}
	tells(b.t, b.s, b.m)
	return id, e
}

func (b both) expire(now, id int64) api.Errno {
	b.t.Helper()
	e := b.s.Expire(now, id)
	if want := b.m.expire(now, id); e != want {
		b.t.Errorf("Expire(%d, %d) = %d; want %d", now, id, e, want)
	}
	tells(b.t, b.s, b.m)
	return e
}

func (b both) silent(now int64, l []api.Label) []int64 {
	b.t.Helper()
	before := slices.Clone(l)
	ids, e := b.s.Silent(now, l)
	if want, wantE := b.m.silent(now, l); !slices.Equal(ids, want) || e != wantE {
		b.t.Errorf("Silent(%d, %v) = %v, %d; want %v, %d", now, l, ids, e, want, wantE)
	}
	if !slices.Equal(l, before) {
		b.t.Error("changed", l)
	}
	return ids
}

func (b both) sweep(now, keep int64) (int, api.Errno) {
	b.t.Helper()
	n, e := b.s.Sweep(now, keep)
	if want, wantE := b.m.sweep(now, keep); n != want || e != wantE {
		b.t.Errorf("Sweep(%d, %d) = %d, %d; want %d, %d", now, keep, n, e, want, wantE)
	}
	tells(b.t, b.s, b.m)
	return n, e
}

func (b both) changed() [][]byte {
	b.t.Helper()
	return tellsChanged(b.t, b.s, b.m)
}

// source answers random things.
type source struct{ *rand.Rand }

func newSource(seed int64) source { return source{rand.New(rand.NewSource(seed))} }

func (r source) matchers() []api.Matcher {
	if r.Intn(12) == 0 {
		var wrong [][]api.Matcher
		for _, e := range []api.Errno{api.ErrFull, api.ErrOp, api.ErrName, api.ErrUtf, api.ErrSize, api.ErrRegex, api.ErrForm} {
			wrong = append(wrong, wrongMatchers()[e]...)
		}
		return wrong[r.Intn(len(wrong))]
	}
	if r.Intn(4) == 0 {
		right := rightMatchers()
		return right[r.Intn(len(right))]
	}
	var l []api.Matcher
	for range 1 + r.Intn(2) {
		l = append(l, is(api.MEq, []string{"a", "b"}[r.Intn(2)], fmt.Sprint(r.Intn(3))))
	}
	return l
}

// time answers a time about now, or, seldom, one that is near to a bound or beyond it.
func (r source) time(now int64) int64 {
	if r.Intn(12) == 0 {
		edges := []int64{-1, 0, 1, maxTime, maxTime + 1, maxAt, maxAt + 1}
		return edges[r.Intn(len(edges))]
	}
	return now + int64(r.Intn(80)) - 25
}

func (r source) set() []api.Label {
	if r.Intn(20) == 0 {
		wrong := wrongSets()
		return wrong[r.Intn(len(wrong))]
	}
	switch r.Intn(4) {
	case 0:
		return nil
	case 1:
		return of("b", fmt.Sprint(r.Intn(3)))
	case 2:
		return of("a", fmt.Sprint(r.Intn(3)))
	}
	return of("a", fmt.Sprint(r.Intn(3)), "b", fmt.Sprint(r.Intn(3)))
}

// step does one random thing to a store and its model.
func (r source) step(b both, now int64) {
	b.t.Helper()
	id := max(0, b.m.last-int64(r.Intn(8)))
	x := api.Silence{Id: id, Matchers: r.matchers(), From: r.time(now), To: r.time(now)}
	if at := b.m.find(id); at >= 0 && r.Intn(2) == 0 {
		x.Matchers = b.m.list[at].Matchers
		if r.Intn(2) == 0 {
			x.From = b.m.list[at].From
		}
	}
	switch r.Intn(9) {
	case 0, 1, 2:
		b.add(now, x)
	case 3, 4, 5:
		b.set(now, x)
	case 6:
		b.expire(now, id)
	case 7:
		b.sweep(now, int64(r.Intn(40))-1)
	default:
		b.silent(now, r.set())
	}
}
