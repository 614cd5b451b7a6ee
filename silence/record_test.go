package silence

import (
	"encoding/binary"
	"math"
	"slices"
	"strings"
	"testing"

	"tocsin/api"
)

func TestP22_4_Record(t *testing.T) {
	for _, c := range []struct {
		x    api.Silence
		want string
	}{
		{hush(1, "1", 0, 0), "\x02\x00\x00\x01\x01\x01a\x011"},
		{hush(1, "1", 10, 50), "\x02\x14\x64\x01\x01\x01a\x011"},
		{hush(64, "é", 63, 64), "\x80\x01\x7e\x80\x01\x01\x01\x01a\x02é"},
		{api.Silence{Id: 2, Matchers: []api.Matcher{is(api.MNe, "a", ""), is(api.MRe, "bc", "x*"), is(api.MNre, "d", "y")}, From: 1, To: 2}, "\x04\x02\x04\x03\x02\x01a\x00\x03\x02bc\x02x*\x04\x01d\x01y"},
		{hush(maxTime, "1", maxAt, maxAt), "\x80\x80\x80\x80\x80\x80\x80\x04" + "\x80\x80\x80\x80\x80\xc0\x80\x04" + "\x80\x80\x80\x80\x80\xc0\x80\x04" + "\x01\x01\x01a\x011"},
	} {
		b, e := Record(c.x)
		if e != api.OK || string(b) != c.want {
			t.Errorf("%v: %q, %d; want %q", c.x, b, e, c.want)
		}
		if got, e := Read(b); e != api.OK || !sameSilence(got, c.x) {
			t.Errorf("Read(%q) = %v, %d", b, got, e)
		}
	}
	for _, l := range rightMatchers() {
		x := api.Silence{Id: 5, Matchers: l, From: 3, To: 4}
		b, e := Record(x)
		if e != api.OK || string(b) != string(recordModel(x)) {
			t.Errorf("%v: %q, %d", x, b, e)
		}
		if got, e := Read(b); e != api.OK || !sameSilence(got, x) {
			t.Errorf("Read(%q) = %v, %d", b, got, e)
		}
	}
}

// canNotBe are silences that can not be, whatever their Ids.
func canNotBe() []api.Silence {
	var l []api.Silence
	for _, lists := range wrongMatchers() {
		for _, m := range lists {
			l = append(l, with(m, 1, 2))
		}
	}
	for _, x := range [][2]int64{{-1, 5}, {math.MinInt64, 5}, {maxAt + 1, maxAt + 1}, {5, maxAt + 1}, {5, -1}, {6, 5}, {1, 0}, {maxAt, 0}, {-2, -1}, {math.MaxInt64, math.MaxInt64}} {
		l = append(l, hush(0, "1", x[0], x[1]))
	}
	return l
}

func TestP22_4_RecordRefused(t *testing.T) {
	for _, id := range []int64{0, -1, maxTime + 1, math.MinInt64, math.MaxInt64} {
		if b, e := Record(hush(id, "1", 0, 50)); b != nil || e != api.ErrArg {
			t.Error(id, b, e)
		}
		for _, x := range canNotBe() {
			x.Id = id
			if b, e := Record(x); b != nil || e != api.ErrArg {
				t.Error(x, b, e)
			}
		}
	}
	for _, id := range []int64{1, 2, maxTime} {
		if b, e := Record(hush(id, "1", 0, 50)); len(b) == 0 || e != api.OK {
			t.Error(id, b, e)
		}
		for _, x := range canNotBe() {
			x.Id = id
			if b, e := Record(x); b != nil || e != api.ErrForm {
				t.Error(x, b, e)
			}
		}
	}
}

// unreadable: Read must refuse these bytes.
func unreadable(t *testing.T, b []byte) {
	t.Helper()
	if x, e := Read(b); e != api.ErrForm || x.Matchers != nil || !sameSilence(x, api.Silence{}) {
		t.Errorf("Read(%q) = %v, %d", b, x, e)
	}
}

func TestP22_4_ReadCut(t *testing.T) {
	for _, l := range rightMatchers() {
		b, _ := Record(api.Silence{Id: 300, Matchers: l, From: 200, To: 1000})
		for n := range b {
			unreadable(t, b[:n])
		}
		for _, more := range []string{"\x00", "\x01", "\xff", "\x01\x01a\x011", string(b)} {
			unreadable(t, append(slices.Clone(b), more...))
			unreadable(t, append([]byte(more), b...))
		}
	}
	unreadable(t, nil)
	unreadable(t, []byte{})
}

func TestP22_4_ReadWrong(t *testing.T) {
	for _, id := range []int64{0, -1, -maxTime, maxTime + 1, math.MinInt64, math.MaxInt64} {
		unreadable(t, recordModel(hush(id, "1", 0, 50)))
	}
	for _, x := range canNotBe() {
		x.Id = 1
		unreadable(t, recordModel(x))
	}
	for _, id := range []int64{1, 2, 63, 64, maxTime, maxTime + 1} {
		unreadable(t, goneModel(id))
	}
	for _, s := range []string{
		"\x00",
		"\x02",
		// Numbers that are not in their shortest form, one after another.
		"\x82\x00\x14\x64\x01\x01\x01a\x011",
		"\x02\x94\x00\x64\x01\x01\x01a\x011",
		"\x02\x14\xe4\x00\x01\x01\x01a\x011",
		"\x02\x14\x64\x81\x00\x01\x01a\x011",
		"\x02\x14\x64\x01\x81\x00\x01a\x011",
		"\x02\x14\x64\x01\x01\x81\x00a\x011",
		"\x02\x14\x64\x01\x01\x01a\x81\x001",
		// Too large ones.
		strings.Repeat("\xff", 9) + "\x02\x14\x64\x01\x01\x01a\x011",
		"\x02\x14\x64" + strings.Repeat("\xff", 9) + "\x01\x01\x01a\x011",
		"\x02\x14\x64\x01" + strings.Repeat("\xff", 9) + "\x01\x01a\x011",
		"\x02\x14\x64\x01\x81\x80\x80\x80\x10\x01a\x011", // 2^32 + 1 is no operator
		"\x02\x14\x64\x01\x01" + strings.Repeat("\xff", 9) + "\x01a\x011",
		// How many matchers there are is another number.
		"\x02\x14\x64\x00\x01\x01a\x011",
		"\x02\x14\x64\x00",
		"\x02\x14\x64\x02\x01\x01a\x011",
		"\x02\x14\x64\x11" + strings.Repeat("\x01\x01a\x011", 17),
		"\x02\x14\x64\x81\x80\x80\x80\x10\x01\x01a\x011",
		// Operators, names and values that are none.
		"\x02\x14\x64\x01\x00\x01a\x011",
		"\x02\x14\x64\x01\x05\x01a\x011",
		"\x02\x14\x64\x01\x01\x00\x011",
		"\x02\x14\x64\x01\x01\x010\x011",
		"\x02\x14\x64\x01\x01\x01\xff\x011",
		"\x02\x14\x64\x01\x01\x01a\x01\xff",
		"\x02\x14\x64\x01\x03\x01a\x01(",
		"\x02\x14\x64\x01\x01\x01a\x00",
		"\x02\x14\x64\x01\x01\x41" + strings.Repeat("n", 65) + "\x011",
		"\x02\x14\x64\x01\x01\x01a\x81\x02" + strings.Repeat("v", 257),
		// From and To that are none.
		"\x02\x01\x64\x01\x01\x01a\x011",
		"\x02\x14\x01\x01\x01\x01a\x011",
		"\x02\x14\x12\x01\x01\x01a\x011",
	} {
		unreadable(t, []byte(s))
	}
	if x, e := Read([]byte("\x02\x14\x64\x01\x01\x01a\x011")); e != api.OK || !sameSilence(x, hush(1, "1", 10, 50)) {
		t.Error(x, e)
	}
}

// TestP22_6_Read: what Read takes is just what Record writes.
func TestP22_6_Read(t *testing.T) {
	r := newSource(2261)
	taken := 0
	for range 20000 {
		l := rightMatchers()
		b, _ := Record(api.Silence{Id: 1 + int64(r.Intn(300)), Matchers: l[r.Intn(len(l))], From: int64(r.Intn(300)), To: int64(300 + r.Intn(300))})
		b[r.Intn(len(b))] = byte(r.Intn(256))
		x, e := Read(b)
		if e != api.OK {
			unreadable(t, b)
			continue
		}
		taken++
		if again, e := Record(x); e != api.OK || string(again) != string(b) {
			t.Errorf("%q is read as %v, which is %q, %d", b, x, again, e)
		}
	}
	if taken == 0 {
		t.Error("none was taken")
	}
}

func TestP22_4_Changed(t *testing.T) {
	b := newBoth(t)
	want := func(l ...[]byte) {
		t.Helper()
		if got := b.changed(); !sameRecords(got, l) {
			t.Errorf("%q; want %q", got, l)
		}
	}
	want()
	b.add(10, hush(0, "1", 0, 50))
	want(recordModel(hush(1, "1", 10, 50)))
	b.add(10, hush(0, "2", 20, 50))
	b.add(10, hush(0, "3", 20, 50))
	want(recordModel(hush(2, "2", 20, 50)), recordModel(hush(3, "3", 20, 50)))
	// Changed twice: told once, where it was changed last.
	b.set(10, hush(2, "2", 20, 60))
	b.expire(15, 3)
	b.set(15, hush(2, "2", 30, 70))
	want(recordModel(hush(3, "3", 15, 15)), recordModel(hush(2, "2", 30, 70)))
	// Set as it was: that is a change, too.
	b.set(15, hush(2, "2", 30, 70))
	want(recordModel(hush(2, "2", 30, 70)))
	// Another one takes its place: that one is there first, then the old one is over.
	b.set(15, hush(2, "4", 30, 70))
	want(recordModel(hush(4, "4", 30, 70)), recordModel(hush(2, "2", 15, 15)))
	// Swept: by their Ids.
	b.expire(20, 1)
	b.sweep(20, 0)
	want(goneModel(1), goneModel(2), goneModel(3))
	// Added and swept: it is gone, and was never told.
	b.add(20, hush(0, "5", 0, 25))
	b.sweep(25, 0)
	want(goneModel(5))
	b.expire(25, 4)
	b.add(25, hush(0, "6", 0, 90))
	b.sweep(25, 0)
	b.add(25, hush(0, "7", 0, 90))
	want(recordModel(hush(6, "6", 25, 90)), goneModel(4), recordModel(hush(7, "7", 25, 90)))
	b.silent(25, of("a", "6"))
	b.s.Get(6)
	want()
}

func TestP22_4_Records(t *testing.T) {
	b := some(t)
	first, second, third := recordModel(hush(1, "1", 10, 100)), recordModel(hush(2, "1", 50, 200)), recordModel(hush(3, "1", 150, 300))
	want := func(l ...[]byte) {
		t.Helper()
		for range 2 { // it changes nothing
			if got := b.s.Records(); !sameRecords(got, l) {
				t.Errorf("%q; want %q", got, l)
			}
		}
	}
	want(first, second, third)
	b.sweep(100, 0)
	want(second, third)
	b.expire(120, 3)
	third = recordModel(hush(3, "1", 120, 120))
	want(second, third)
	b.sweep(120, 0)
	want(second, goneModel(3))
	b.sweep(200, 0)
	want(goneModel(3))
	b.add(200, hush(0, "1", 0, 300))
	want(recordModel(hush(4, "1", 200, 300)))
	b.changed()
	want(recordModel(hush(4, "1", 200, 300)))
}

func TestP22_5_Open(t *testing.T) {
	for _, records := range [][][]byte{nil, {}} {
		s, e, at := Open(records)
		if e != api.OK || at != 0 || s.Len() != 0 || s.Last() != 0 || len(s.Records()) != 0 || len(s.Changed()) != 0 {
			t.Error(s, e, at)
		}
		if id, e := s.Add(10, hush(0, "1", 0, 50)); id != 1 || e != api.OK {
			t.Error(id, e)
		}
	}
	gone := func(id int64) writing { return writing{x: api.Silence{Id: -id}} }
	there := func(id int64, value string) writing { return writing{x: hush(id, value, 10, 50)} }
	for _, c := range []struct {
		l    []writing
		want []int64
		last int64
	}{
		{[]writing{there(1, "1")}, []int64{1}, 1},
		{[]writing{there(9, "1"), there(3, "1"), there(7, "1")}, []int64{3, 7, 9}, 9},
		{[]writing{there(9, "1"), there(3, "1"), there(9, "2"), there(9, "3")}, []int64{3, 9}, 9},
		{[]writing{there(1, "1"), gone(1)}, nil, 1},
		{[]writing{there(1, "1"), gone(1), there(1, "2")}, []int64{1}, 1},
		{[]writing{there(1, "1"), gone(1), gone(1)}, nil, 1},
		{[]writing{gone(5)}, nil, 5}, // it was not there
		{[]writing{gone(5), there(2, "1")}, []int64{2}, 5},
		{[]writing{there(2, "1"), gone(5), gone(4)}, []int64{2}, 5},
		{[]writing{gone(maxTime), there(1, "1")}, []int64{1}, maxTime},
		{[]writing{there(maxTime, "1"), there(1, "1")}, []int64{1, maxTime}, maxTime},
		{[]writing{{x: hush(1, "1", 0, 0)}, {x: hush(2, "1", maxAt, maxAt)}}, []int64{1, 2}, 2},
	} {
		b := opened(t, c.l...)
		var ids []int64
		for x := range b.s.All() {
			ids = append(ids, x.Id)
		}
		if !slices.Equal(ids, c.want) || b.s.Last() != c.last {
			t.Error(c, ids, b.s.Last())
		}
		tells(t, b.s, b.m)
		for _, v := range []string{"1", "2", "3"} {
			b.silent(10, of("a", v))
			b.silent(9, of("a", v))
			b.silent(50, of("a", v))
		}
		if got := b.changed(); len(got) != 0 {
			t.Errorf("%q", got)
		}
		b.add(10, hush(0, "1", 0, 50))
		b.changed()
	}
}

func TestP22_5_OpenWrong(t *testing.T) {
	right := recordModel(hush(1, "1", 10, 50))
	wrong := [][]byte{nil, {}, {0}, right[:5], append(slices.Clone(right), 0), recordModel(hush(0, "1", 0, 5)), recordModel(hush(-1, "1", 0, 5)), recordModel(hush(maxTime+1, "1", 0, 5)), goneModel(maxTime + 1), goneModel(math.MinInt64), append(goneModel(1), 0), {0x81, 0}}
	for _, x := range canNotBe() {
		x.Id = 1
		wrong = append(wrong, recordModel(x))
	}
	for _, b := range wrong {
		for i, records := range [][][]byte{{b}, {right, b}, {right, goneModel(1), b, right}, {right, right, right, b, {0}}} {
			if s, e, at := Open(records); s != nil || e != api.ErrForm || at != i {
				t.Errorf("%q: %v, %d, %d", b, s, e, at)
			}
		}
	}
}

func TestP22_5_OpenFull(t *testing.T) {
	var l []writing
	for i := range int64(api.MaxSilences) {
		l = append(l, writing{x: hush(2*i+2, "1", 10, 50)})
	}
	if b := opened(t, l...); b.s.Len() != api.MaxSilences || b.s.Last() != 400 {
		t.Error(b.s.Len(), b.s.Last())
	}
	more, same, gone, wrong := writing{x: hush(7, "1", 10, 50)}, writing{x: hush(8, "2", 10, 50)}, writing{x: api.Silence{Id: -8}}, writing{wrong: "\x00"}
	for _, c := range []struct {
		l  []writing
		e  api.Errno
		at int
	}{
		{[]writing{more}, api.ErrFull, 200},
		{[]writing{same, same, same}, api.OK, 0},
		{[]writing{same, more}, api.ErrFull, 201},
		{[]writing{gone, more}, api.OK, 0},
		{[]writing{gone, more, same}, api.ErrFull, 202},
		{[]writing{more, gone}, api.ErrFull, 200},
		{[]writing{{x: api.Silence{Id: -7}}, more}, api.ErrFull, 201},
		{[]writing{wrong, more}, api.ErrForm, 200},
		{[]writing{more, wrong}, api.ErrFull, 200},
	} {
		var records [][]byte
		for _, w := range slices.Concat(l, c.l) {
			records = append(records, w.bytes())
		}
		if s, e, at := Open(records); e != c.e || at != c.at || (s != nil) != (e == api.OK) {
			t.Error(c.e, c.at, e, at)
		}
	}
}

// TestP22_5_Model: records of any kind, in any order.
func TestP22_5_Model(t *testing.T) {
	r := newSource(225)
	for range 2000 {
		var l []writing
		for range r.Intn(12) {
			w := writing{x: api.Silence{Id: int64(r.Intn(6) + 1), Matchers: r.matchers(), From: 5, To: 5 + int64(r.Intn(60)) - 1}}
			switch r.Intn(8) {
			case 0, 1:
				w.x.Id = -w.x.Id
			case 2:
				w.x.Matchers = just("2")
			case 3:
				w.x.From = r.time(20)
			}
			if r.Intn(40) == 0 {
				w.wrong = "\x02\x14"
			}
			l = append(l, w)
		}
		var records [][]byte
		for _, w := range l {
			records = append(records, w.bytes())
		}
		s, e, at := Open(records)
		m, want, wantAt := openModel(l)
		if e != want || at != wantAt || (s == nil) != (m == nil) {
			t.Fatalf("Open(%q) = %d, %d; want %d, %d", records, e, at, want, wantAt)
		}
		if s != nil && !tells(t, s, m) {
			t.Fatalf("%q", records)
		}
	}
}

// TestP22_6_AsWritten: a store that is opened from Records, and one from all that Changed has told, tell what the store tells, and go on as it.
func TestP22_6_AsWritten(t *testing.T) {
	r := newSource(226)
	for range 150 {
		b := newBoth(t)
		var told [][]byte
		now := int64(r.Intn(50))
		for range 60 {
			r.step(b, now)
			if r.Intn(6) == 0 {
				told = append(told, b.changed()...)
			}
			now += int64(r.Intn(10))
		}
		told = append(told, b.changed()...)
		var others []both
		for _, records := range [][][]byte{b.s.Records(), told} {
			s, e, at := Open(records)
			if e != api.OK || at != 0 {
				t.Fatal(e, at)
			}
			m := *b.m
			m.list = copySilences(m.list)
			others = append(others, both{t, s, &m})
			tells(t, s, &m)
			tellsChanged(t, s, &m)
		}
		if t.Failed() {
			return
		}
		// The three go on with the same calls.
		seed := r.Int63()
		for _, x := range append(others, b) {
			again := newSource(seed)
			for at := now; at < now+60; at += int64(again.Intn(10)) + 1 {
				again.step(x, at)
			}
			x.changed()
		}
	}
}

// TestP22_6_Room: what Changed tells of a store that was full all along never asks for more room than there is.
func TestP22_6_Room(t *testing.T) {
	b := full(t)
	told := b.s.Records()
	r := newSource(2262)
	now := int64(50)
	for range 40 {
		for range r.Intn(20) {
			b.expire(now, b.m.list[r.Intn(len(b.m.list))].Id)
		}
		b.sweep(now, int64(r.Intn(2)*40))
		for b.s.Len() < api.MaxSilences {
			b.add(now, hush(0, "1", 0, now+1+int64(r.Intn(50))))
		}
		for range r.Intn(20) {
			x := b.m.list[r.Intn(len(b.m.list))]
			b.set(now, api.Silence{Id: x.Id, Matchers: x.Matchers, From: x.From, To: now + 5})
		}
		if r.Intn(3) == 0 {
			told = append(told, b.changed()...)
		}
		now += int64(r.Intn(10))
	}
	told = append(told, b.changed()...)
	s, e, at := Open(told)
	if e != api.OK {
		t.Fatal(e, at)
	}
	tells(t, s, b.m)
}

// TestP22_6_ManyChanges: Changed may be asked seldom.
func TestP22_6_ManyChanges(t *testing.T) {
	s := New()
	for i := range int64(20000) {
		if _, e := s.Add(i, hush(0, "1", 0, i+1)); e != api.OK {
			t.Fatal(i, e)
		}
		s.Sweep(i+1, 0)
	}
	l := s.Changed()
	if len(l) != 20000 || string(l[0]) != string(goneModel(1)) || string(l[19999]) != string(goneModel(20000)) {
		t.Error(len(l))
	}
}

// FuzzRead: what is taken is written the same.
func FuzzRead(f *testing.F) {
	for _, l := range rightMatchers() {
		f.Add(recordModel(api.Silence{Id: 300, Matchers: l, From: 10, To: 1000}))
	}
	f.Add(goneModel(5))
	f.Fuzz(func(t *testing.T, b []byte) {
		x, e := Read(b)
		switch e {
		case api.OK:
			if again, e := Record(x); e != api.OK || string(again) != string(b) || !canModel(x) {
				t.Errorf("%q is read as %v, which is %q, %d", b, x, again, e)
			}
		case api.ErrForm:
			if !sameSilence(x, api.Silence{}) {
				t.Error(x)
			}
		default:
			t.Error(e)
		}
		s, openE, at := Open([][]byte{b})
		if openE != api.OK && openE != api.ErrForm || at != 0 || (s == nil) == (openE == api.OK) || e == api.OK && openE != api.OK {
			t.Error(s, openE, at)
		}
	})
}

// FuzzSilence holds a store against its model; each call is made of twelve bytes.
func FuzzSilence(f *testing.F) {
	f.Add([]byte("0123456789ab0123456789AB"))
	f.Add([]byte("\x00\x00\x0a\x00\x00\x00\x00\x00\x32\x00\x00\x00\x01\x01\x0a\x00\x00\x0a\x00\x00\x5a\x00\x00\x01"))
	lists := rightMatchers()
	for _, e := range []api.Errno{api.ErrFull, api.ErrOp, api.ErrName, api.ErrForm} {
		lists = append(lists, wrongMatchers()[e][0])
	}
	sets := append(wrongSets(), nil, of("a", "1"), of("a", "2", "b", "x"), of("c", "1"))
	f.Fuzz(func(t *testing.T, bytes []byte) {
		b := newBoth(t)
		for ; len(bytes) >= 12 && !t.Failed(); bytes = bytes[12:] {
			number := func(at int) int64 {
				n := int64(int16(binary.LittleEndian.Uint16(bytes[at:])))
				switch bytes[at+2] % 8 {
				case 6:
					n += maxTime
				case 7:
					n += maxAt
				}
				return n
			}
			now, id := number(2), int64(bytes[11]%8)
			x := api.Silence{Id: id, Matchers: lists[int(bytes[1])%len(lists)], From: number(5), To: number(8)}
			switch bytes[0] % 7 {
			case 0, 1:
				b.add(now, x)
			case 2:
				b.set(now, x)
			case 3:
				b.expire(now, id)
			case 4:
				b.sweep(now, number(5))
			case 5:
				b.silent(now, sets[int(bytes[1])%len(sets)])
			default:
				b.changed()
			}
		}
		b.changed()
		s, e, _ := Open(b.s.Records())
		if e != api.OK {
			t.Fatal(e)
		}
		tells(t, s, b.m)
	})
}
