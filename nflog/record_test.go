package nflog

import (
	"fmt"
	"slices"
	"strings"
	"testing"

	"tocsin/api"
)

func TestP26_4_Record(t *testing.T) {
	for _, c := range []struct {
		m    api.Mark
		want string
	}{
		{api.Mark{Receiver: "r", Key: "k"}, "\x01r\x01k\x00\x00\x00"},
		{mark(100, sets("1"), nil), "\x04team\x01k\xc8\x01\x01\x01\x01a\x011\x00"},
		{mark(63, nil, sets("1", "é")), "\x04team\x01k\x7e\x00\x02\x01\x01a\x011\x01\x01a\x02é"},
		{mark(64, [][]api.Label{nil, of("a", "1", "b", "2")}, [][]api.Label{nil}), "\x04team\x01k\x80\x01\x02\x00\x02\x01a\x011\x01b\x012\x01\x00"},
		{mark(maxTime, nil, nil), "\x04team\x01k\x80\x80\x80\x80\x80\x80\x80\x04\x00\x00"},
	} {
		b, e := Record(c.m)
		if e != api.OK || string(b) != c.want {
			t.Errorf("%v: %q, %d; want %q", c.m, b, e, c.want)
		}
		if got, e := Read([]byte(c.want)); e != api.OK || !sameMark(got, c.m) {
			t.Errorf("Read(%q) = %v, %d", b, got, e)
		}
	}
}

// TestP26_4_Great: the greatest mark there is.
func TestP26_4_Great(t *testing.T) {
	var l [][]api.Label
	for i := range 500 {
		var set []api.Label
		for k := range 16 {
			set = append(set, api.Label{Name: fmt.Sprintf("%s%02d", strings.Repeat("n", 62), k), Value: fmt.Sprintf("%03d%s", i, strings.Repeat("v", 253))})
		}
		l = append(l, set)
	}
	m := api.Mark{Receiver: strings.Repeat("r", 64), Key: strings.Repeat("k", 65536), At: maxTime, Firing: l, Resolved: l}
	b, e := Record(m)
	if e != api.OK || string(b) != string(recordModel(m)) {
		t.Fatal(len(b), e)
	}
	if got, e := Read(b); e != api.OK || !sameMark(got, m) {
		t.Error(e)
	}
}

// unreadable: Read must refuse these bytes.
func unreadable(t *testing.T, b []byte) {
	t.Helper()
	before := string(b)
	if m, e := Read(b); e != api.ErrForm || !isZero(m) {
		t.Errorf("Read(%q) = %v, %d", b, m, e)
	}
	if string(b) != before {
		t.Errorf("changed %q", before)
	}
}

func TestP26_4_ReadCut(t *testing.T) {
	for _, m := range []api.Mark{{Receiver: "r", Key: "k"}, mark(300, sets("1", "2"), sets("3")), mark(300, rightLists()[7], rightLists()[10]), {Receiver: "é", Key: strings.Repeat("k", 200), At: maxTime, Resolved: several(130)}} {
		b, _ := Record(m)
		for n := range b {
			unreadable(t, b[:n])
		}
		for _, more := range []string{"\x00", "\x01", "\xff", "\x01\x01\x01a\x011", string(b)} {
			unreadable(t, append(slices.Clone(b), more...))
			unreadable(t, append([]byte(more), b...))
		}
		if got, e := Read(b); e != api.OK || !sameMark(got, m) {
			t.Error(got, e)
		}
	}
	unreadable(t, nil)
	unreadable(t, []byte{})
}

func TestP26_4_ReadWrong(t *testing.T) {
	if m, e := Read([]byte("\x01r\x01k\x14\x01\x01\x01a\x011\x01\x00")); e != api.OK || m.At != 10 {
		t.Error(m, e)
	}
	for _, s := range []string{
		// Numbers that are not in their shortest form, one after another.
		"\x81\x00r\x01k\x14\x01\x01\x01a\x011\x01\x00",
		"\x01r\x81\x00k\x14\x01\x01\x01a\x011\x01\x00",
		"\x01r\x01k\x94\x00\x01\x01\x01a\x011\x01\x00",
		"\x01r\x01k\x14\x81\x00\x01\x01a\x011\x01\x00",
		"\x01r\x01k\x14\x01\x81\x00\x01a\x011\x01\x00",
		"\x01r\x01k\x14\x01\x01\x81\x00a\x011\x01\x00",
		"\x01r\x01k\x14\x01\x01\x01a\x81\x001\x01\x00",
		"\x01r\x01k\x14\x01\x01\x01a\x011\x81\x00\x00",
		"\x01r\x01k\x14\x01\x01\x01a\x011\x01\x80\x00",
		// Too large ones.
		strings.Repeat("\xff", 9) + "\x01r\x01k\x14\x00\x00",
		"\x01r\x01k" + strings.Repeat("\xff", 9) + "\x02\x00\x00",
		"\x01r\x01k\x14" + strings.Repeat("\xff", 9) + "\x01\x00",
		"\x01r\x01k\x14\x80\x80\x80\x80\x10\x00", // 2^32 label sets
		"\x01r\x01k\x14\x00" + strings.Repeat("\xff", 9) + "\x01",
		"\x01r\x01k\x14\x01\x11" + strings.Repeat("\x01a\x011", 17) + "\x00",
		// How many there are is another number.
		"\x01r\x01k\x14\x02\x01\x01a\x011\x00",
		"\x01r\x01k\x14\x00\x01\x01a\x011\x00",
		"\x01r\x01k\x14\x00",
		"\x01r\x01k\x14",
		// Texts, times and label sets that are none.
		"\x00\x01k\x14\x00\x00",
		"\x01r\x00\x14\x00\x00",
		"\x01\xff\x01k\x14\x00\x00",
		"\x01r\x01\xff\x14\x00\x00",
		"\x41" + strings.Repeat("r", 65) + "\x01k\x14\x00\x00",
		"\x01r\x81\x80\x04" + strings.Repeat("k", 65537) + "\x14\x00\x00",
		"\x01r\x01k\x01\x00\x00",
		"\x01r\x01k\x82\x80\x80\x80\x80\x80\x80\x04\x00\x00",
		"\x01r\x01k\x14\x01\x01\x01a\x00\x00",
		"\x01r\x01k\x14\x01\x01\x010\x011\x00",
		"\x01r\x01k\x14\x01\x01\x01a\x01\xff\x00",
		// Lists that do not rise.
		"\x01r\x01k\x14\x02\x01\x01a\x012\x01\x01a\x011\x00",
		"\x01r\x01k\x14\x02\x01\x01a\x011\x01\x01a\x011\x00",
		"\x01r\x01k\x14\x00\x02\x01\x01a\x012\x01\x01a\x011",
		"\x01r\x01k\x14\x00\x02\x00\x00",
	} {
		unreadable(t, []byte(s))
	}
	for _, l := range wrongLists() {
		unreadable(t, recordModel(mark(1, l, nil)))
		unreadable(t, recordModel(mark(1, nil, l)))
	}
	unreadable(t, recordModel(mark(1, several(501), nil)))
	unreadable(t, recordModel(mark(1, nil, several(501))))
}

// TestP26_7_Read: what Read takes is just what Record writes.
func TestP26_7_Read(t *testing.T) {
	r := newSource(267)
	taken := 0
	for range 20000 {
		b := recordModel(api.Mark{Receiver: r.name(), Key: r.name(), At: int64(r.Intn(300)), Firing: r.list(), Resolved: r.list()})
		b[r.Intn(len(b))] = byte(r.Intn(256))
		m, e := Read(b)
		if e != api.OK {
			unreadable(t, b)
			continue
		}
		taken++
		if again, e := Record(m); e != api.OK || string(again) != string(b) {
			t.Errorf("%q is read as %v, which is %q, %d", b, m, again, e)
		}
	}
	if taken == 0 {
		t.Error("none was taken")
	}
}

func TestP26_4_Open(t *testing.T) {
	for _, records := range [][][]byte{nil, {}} {
		l, e, at := Open(records)
		if e != api.OK || at != 0 {
			t.Error(e, at)
		}
		both{t, l, &logModel{}}.tells()
	}
	first, earlier, same, other := at("team", "k", 100), mark(50, nil, sets("2")), mark(100, sets("5"), nil), at("a", "k", 70)
	x := opened(t, &first, &earlier)
	if m, is := x.l.Find("team", "k"); !is || !sameMark(m, earlier) || x.l.Len() != 1 {
		t.Error("a falling At", m, is)
	}
	opened(t, &earlier, &first, &same)
	opened(t, &first, &other, &earlier, &same, &other)
	x = opened(t, &first, &other, &earlier)
	x.put(first)
	x.put(other)
	x.put(earlier)
}

func TestP26_4_OpenWrong(t *testing.T) {
	right := recordModel(at("team", "k", 100))
	wrong := [][]byte{nil, {}, {0}, right[:5], append(slices.Clone(right), 0), recordModel(at("", "k", 1)), recordModel(at("team", "", 1)), recordModel(at("team", "k", -1)), recordModel(mark(1, sets("2", "1"), nil)), recordModel(mark(1, several(501), nil))}
	for _, b := range wrong {
		for i, records := range [][][]byte{{b}, {right, b}, {right, right, b, right}, {right, right, right, b, {0}}} {
			if l, e, at := Open(records); l != nil || e != api.ErrForm || at != i {
				t.Errorf("%q: %v, %d, %d", b, l, e, at)
			}
		}
	}
}

func TestP26_4_OpenFull(t *testing.T) {
	var l []*api.Mark
	for i := range 500 {
		m := at(fmt.Sprint("r", i%7), fmt.Sprint("k", i), 100)
		l = append(l, &m)
	}
	if x := opened(t, l...); x.l.Len() != 500 {
		t.Error(x.l.Len())
	}
	more, same := at("r0", "more", 100), at("r0", "k0", 5)
	for _, c := range []struct {
		l  []*api.Mark
		e  api.Errno
		at int
	}{
		{[]*api.Mark{&more}, api.ErrFull, 500},
		{[]*api.Mark{&same, &same}, api.OK, 0},
		{[]*api.Mark{&same, &more, &same}, api.ErrFull, 501},
		{[]*api.Mark{nil, &more}, api.ErrForm, 500},
		{[]*api.Mark{&more, nil}, api.ErrFull, 500},
	} {
		var records [][]byte
		for _, m := range slices.Concat(l, c.l) {
			if m == nil {
				records = append(records, nil)
			} else {
				records = append(records, recordModel(*m))
			}
		}
		if got, e, at := Open(records); e != c.e || at != c.at || (got != nil) != (e == api.OK) {
			t.Error(c.e, c.at, e, at)
		}
	}
}

// TestP26_7_AsWritten: a log that is opened of Records tells what the log tells, and goes on as it.
func TestP26_7_AsWritten(t *testing.T) {
	r := newSource(2671)
	for range 150 {
		x := newBoth(t)
		for range 40 {
			x.put(r.mark(100))
		}
		l, e, at := Open(x.l.Records())
		if e != api.OK || at != 0 {
			t.Fatal(e, at)
		}
		y := both{t, l, &logModel{list: slices.Clone(x.m.list)}}
		y.tells()
		for range 20 {
			m := r.mark(105)
			if a, b := x.put(m), y.put(m); a != b {
				t.Error(m, a, b)
			}
		}
		x.sweep(105, 5)
		y.sweep(105, 5)
		if t.Failed() {
			return
		}
	}
}

// TestP26_4_Model: records of any marks, in any order.
func TestP26_4_Model(t *testing.T) {
	r := newSource(264)
	for range 1500 {
		var l []*api.Mark
		for range r.Intn(12) {
			m := r.mark(100)
			l = append(l, &m)
			if r.Intn(60) == 0 {
				l = append(l, nil)
			}
		}
		opened(t, l...)
		if t.Failed() {
			return
		}
	}
}

// TestRules_RecordMemory: records share nothing with what is handed in, nor marks with the records that they were read from.
func TestRules_RecordMemory(t *testing.T) {
	m := mark(100, sets("1", "2"), sets("3"))
	b, _ := Record(m)
	spoil(m)
	want := mark(100, sets("1", "2"), sets("3"))
	if string(b) != string(recordModel(want)) {
		t.Errorf("%q", b)
	}
	records := [][]byte{slices.Clone(b), recordModel(at("team", "j", 5))}
	got, _ := Read(records[0])
	l, _, _ := Open(records)
	for _, b := range records {
		for i := range b {
			b[i] = 0xff
		}
	}
	records[0] = nil
	if !sameMark(got, want) {
		t.Error(got)
	}
	spoil(got)
	if again, e := Read(b); e != api.OK || !sameMark(again, want) {
		t.Error(again, e)
	}
	both{t, l, &logModel{list: []api.Mark{at("team", "j", 5), want}}}.tells()
}

// FuzzRead: what is taken is written the same.
func FuzzRead(f *testing.F) {
	f.Add(recordModel(mark(100, sets("1", "2"), sets("3"))))
	f.Add(recordModel(mark(maxTime, [][]api.Label{nil, many(16)}, nil)))
	f.Add([]byte("\x01r\x01k\x00\x00\x00"))
	f.Fuzz(func(t *testing.T, b []byte) {
		m, e := Read(b)
		if e != api.OK {
			unreadable(t, b)
			return
		}
		if rightModel(m) != api.OK || string(recordModel(m)) != string(b) {
			t.Errorf("%q is read as %v", b, m)
		}
		if again, e := Record(m); e != api.OK || string(again) != string(b) {
			t.Errorf("%q is read as %v, which is %q, %d", b, m, again, e)
		}
	})
}
