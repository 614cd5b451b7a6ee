package nflog

import (
	"fmt"
	"math"
	"slices"
	"strings"
	"testing"

	"tocsin/api"
)

func TestNilLog(t *testing.T) {
	var l *Log
	for _, m := range []api.Mark{at("team", "k", 1), {}, at("team", "k", -1)} {
		if e := l.Put(m); e != api.ErrNil {
			t.Error(e)
		}
	}
	for _, now := range []int64{-1, 0, 100, maxTime + 1} {
		for _, sets := range [][][]api.Label{nil, sets("1"), sets("")} {
			if is, e := l.Needs("team", "k", now, now, sets, sets); is || e != api.ErrNil {
				t.Error(is, e)
			}
		}
		if n, e := l.Sweep(now, now); n != 0 || e != api.ErrNil {
			t.Error(n, e)
		}
	}
	for _, name := range []string{"", "team", "\xff"} {
		if m, is := l.Find(name, name); is || !isZero(m) {
			t.Error(m, is)
		}
	}
	for m := range l.All() {
		t.Error(m)
	}
	if l.Len() != 0 || len(l.Records()) != 0 {
		t.Error(l.Len(), l.Records())
	}
}

// TestP1_ZeroLog: a log that nobody made is one without marks.
func TestP1_ZeroLog(t *testing.T) {
	var l Log
	x := both{t, &l, &logModel{}}
	x.tells()
	x.sweep(5, 0)
	x.needs("team", "k", 5, 5, sets("1"), nil)
	x.put(at("team", "k", 1))
}

func TestP26_3_New(t *testing.T) {
	x := newBoth(t)
	x.tells()
	if m, is := x.l.Find("team", "k"); is || !isZero(m) {
		t.Error(m, is)
	}
	if n, e := x.sweep(maxTime, 0); n != 0 || e != api.OK {
		t.Error(n, e)
	}
}

func TestP26_3_Find(t *testing.T) {
	x := newBoth(t)
	marks := []api.Mark{at("a", "bc", 1), at("ab", "c", 2), at("b", "a", 3), at("a", "b", 4), at("B", "é", 5), at("a", strings.Repeat("k", 65536), 6)}
	for _, m := range marks {
		x.put(m)
	}
	for _, m := range marks {
		if got, is := x.l.Find(m.Receiver, m.Key); !is || !sameMark(got, m) {
			t.Error(got, is)
		}
	}
	for _, no := range [][2]string{{"", ""}, {"a", ""}, {"", "b"}, {"a", "a"}, {"b", "b"}, {"bc", "a"}, {"abc", ""}, {"a", "B"}, {"A", "b"}, {"c", "ab"}, {"\xff", "\xff"}, {"a", "b\x00"}, {"zz", "zz"}} {
		if got, is := x.l.Find(no[0], no[1]); is || !isZero(got) {
			t.Error(no, got, is)
		}
	}
}

// TestP26_3_PutAgain: in the place of one with an earlier, the same and a later At.
func TestP26_3_PutAgain(t *testing.T) {
	for _, c := range []struct {
		at int64
		e  api.Errno
	}{{0, api.ErrOld}, {99, api.ErrOld}, {100, api.OK}, {101, api.OK}, {maxTime, api.OK}} {
		x := newBoth(t)
		x.put(at("other", "k", 200))
		x.put(at("team", "j", 200))
		x.put(mark(100, sets("1"), sets("2")))
		next := mark(c.at, nil, sets("1", "3"))
		if e := x.put(next); e != c.e || x.l.Len() != 3 {
			t.Error(c, e, x.l.Len())
		}
		want := next
		if c.e != api.OK {
			want = mark(100, sets("1"), sets("2"))
		}
		if got, is := x.l.Find("team", "k"); !is || !sameMark(got, want) {
			t.Error(c, got)
		}
	}
	x := newBoth(t)
	x.put(at("team", "k", maxTime))
	if e := x.put(at("team", "k", maxTime-1)); e != api.ErrOld {
		t.Error(e)
	}
	// Right's error is told ahead.
	if e := x.put(mark(5, sets("2", "1"), nil)); e != api.ErrLabel {
		t.Error(e)
	}
	if e := x.put(mark(-1, nil, nil)); e != api.ErrArg {
		t.Error(e)
	}
}

// full answers a log with MaxAlerts marks, at 100.
func full(t *testing.T) both {
	t.Helper()
	x := newBoth(t)
	for i := range 500 {
		m := at(fmt.Sprint("r", i%7), fmt.Sprint("k", i), 100)
		if e := x.l.Put(m); e != api.OK {
			t.Fatal(i, e)
		}
		x.m.put(m)
	}
	x.tells()
	return x
}

func TestP26_3_Full(t *testing.T) {
	x := full(t)
	for _, m := range []api.Mark{at("r0", "more", 100), at("s", "k0", 0), at("r0", "k1", maxTime)} {
		if e := x.put(m); e != api.ErrFull || x.l.Len() != 500 {
			t.Error(m, e)
		}
	}
	if e := x.put(at("r0", "more", -1)); e != api.ErrArg {
		t.Error(e)
	}
	if e := x.put(at("r0", "k0", 99)); e != api.ErrOld {
		t.Error(e)
	}
	if e := x.put(at("r0", "k0", 300)); e != api.OK || x.l.Len() != 500 {
		t.Error(e)
	}
	if n, e := x.sweep(100, 0); n != 499 || e != api.OK {
		t.Error(n, e)
	}
	if e := x.put(at("r0", "more", 100)); e != api.OK {
		t.Error(e)
	}
}

// TestP26_3_Needs: Needs of a log is that of the mark that is there.
func TestP26_3_Needs(t *testing.T) {
	x := newBoth(t)
	if !x.needs("team", "k", 100, 50, sets("1"), nil) || x.needs("team", "k", 100, 50, nil, sets("1")) {
		t.Error("without a mark")
	}
	x.put(mark(100, sets("1"), nil))
	for _, c := range []struct {
		receiver, key    string
		now              int64
		firing, resolved [][]api.Label
		want             bool
	}{
		{"team", "k", 120, sets("1"), nil, false},
		{"team", "k", 149, sets("1"), nil, false},
		{"team", "k", 150, sets("1"), nil, true},
		{"team", "k", 120, sets("2", "1"), nil, true},
		{"team", "k", 120, nil, sets("1"), true},
		{"team", "k", 120, sets("1"), sets("2"), true},
		{"team", "j", 120, sets("1"), nil, true},
		{"tea", "k", 120, sets("1"), nil, true},
		{"team", "", 120, sets("1"), nil, true},
		{"", "", 120, nil, sets("1"), false},
		{"\xff", "\xff", 120, sets("1"), nil, true},
	} {
		if got := x.needs(c.receiver, c.key, c.now, 50, c.firing, c.resolved); got != c.want {
			t.Error(c, got)
		}
		x.tells()
	}
	for _, c := range []struct {
		now, repeat      int64
		firing, resolved [][]api.Label
		e                api.Errno
	}{
		{-1, 50, sets("1"), nil, api.ErrArg}, {maxTime + 1, 50, sets("1"), nil, api.ErrArg}, {120, 0, sets("1"), nil, api.ErrArg}, {120, maxSpan + 1, sets("1"), nil, api.ErrArg},
		{120, 50, sets(""), nil, api.ErrLabel}, {120, 50, nil, sets(""), api.ErrLabel}, {-1, 50, sets(""), nil, api.ErrArg},
		{120, 1, sets("1"), nil, api.OK}, {120, maxSpan, sets("1"), nil, api.OK},
	} {
		for _, key := range []string{"k", "j"} {
			x.needs("team", key, c.now, c.repeat, c.firing, c.resolved)
			if _, e := x.l.Needs("team", key, c.now, c.repeat, c.firing, c.resolved); e != c.e {
				t.Error(c, e)
			}
		}
	}
}

func TestP26_3_Sweep(t *testing.T) {
	marks := []api.Mark{at("a", "1", 99), at("a", "2", 100), at("b", "1", 101), at("b", "2", 0)}
	for _, c := range []struct {
		now, keep int64
		stay      []int
	}{
		{100, 0, []int{2}},
		{99, 0, []int{1, 2}},
		{101, 0, nil},
		{0, 0, []int{0, 1, 2}},
		{150, 50, []int{2}},
		{150, 51, []int{1, 2}},
		{150, 49, nil},
		{100, 100, []int{0, 1, 2}},
		{100, 101, []int{0, 1, 2, 3}}, // keep is above now
		{0, maxSpan, []int{0, 1, 2, 3}},
		{maxSpan + 100, maxSpan, []int{2}},
		{maxTime, maxSpan, nil},
	} {
		x := newBoth(t)
		for _, m := range marks {
			x.put(m)
		}
		var want []api.Mark
		for _, i := range c.stay {
			want = append(want, marks[i])
		}
		if n, e := x.sweep(c.now, c.keep); n != 4-len(want) || e != api.OK {
			t.Error(c, n, e)
		}
		if all := slices.Collect(x.l.All()); !sameMarks(all, want) {
			t.Error(c, all)
		}
		if n, e := x.sweep(c.now, c.keep); n != 0 || e != api.OK {
			t.Error("again", c, n, e)
		}
	}
	x := newBoth(t)
	x.put(marks[0])
	for _, c := range [][2]int64{{-1, 0}, {math.MinInt64, 0}, {maxTime + 1, 0}, {math.MaxInt64, 0}, {500, -1}, {500, math.MinInt64}, {500, maxSpan + 1}, {500, math.MaxInt64}, {-1, -1}} {
		if n, e := x.sweep(c[0], c[1]); n != 0 || e != api.ErrArg || x.l.Len() != 1 {
			t.Error(c, n, e)
		}
	}
}

// TestP26_3_All: by Receiver, then Key, byte by byte, which is neither the order of their lengths nor that of the two behind one another.
func TestP26_3_All(t *testing.T) {
	order := [][2]string{{"A", "z"}, {"a", "\x00"}, {"a", "b"}, {"a", "bb"}, {"a", "c"}, {"a", "é"}, {"a\x00", "a"}, {"a ", "a"}, {"aa", "A"}, {"ab", "B"}, {"b", "a"}, {"é", "a"}}
	for turn := range len(order) {
		x := newBoth(t)
		var want []api.Mark
		for i, o := range order {
			from := order[(5*i+turn)%len(order)]
			x.put(at(from[0], from[1], 7))
			want = append(want, at(o[0], o[1], 7))
		}
		if all := slices.Collect(x.l.All()); !sameMarks(all, want) {
			t.Error(all)
		}
		var records [][]byte
		for _, m := range want {
			records = append(records, recordModel(m))
		}
		if got := x.l.Records(); !sameRecords(got, records) {
			t.Errorf("%q", got)
		}
	}
}

// TestP26_3_AllLeft: All may be left, gone through again, and is of the time at which it was asked for.
func TestP26_3_AllLeft(t *testing.T) {
	x := newBoth(t)
	for _, key := range []string{"1", "2", "3"} {
		x.put(at("team", key, 10))
	}
	all := x.l.All()
	want := slices.Collect(all)
	for range 2 {
		n := 0
		for m := range all {
			n++
			if !sameMark(m, want[0]) {
				t.Error(m)
			}
			break
		}
		if n != 1 {
			t.Error(n)
		}
	}
	x.put(at("team", "0", 10))
	x.put(at("team", "1", 20))
	x.sweep(10, 0)
	if got := slices.Collect(all); !sameMarks(got, want) {
		t.Error(got)
	}
	seen := 0
	for m := range x.l.All() {
		seen++
		x.put(at("aa", m.Key, 5))
		x.sweep(30, 0)
	}
	if seen != 1 || x.l.Len() != 0 {
		t.Error(seen, x.l.Len())
	}
}

func TestP26_3_Model(t *testing.T) {
	r := newSource(263)
	for range 200 {
		x := newBoth(t)
		now := int64(20 + r.Intn(50))
		for range 60 {
			switch r.Intn(6) {
			case 0:
				x.sweep(now, int64(r.Intn(40))-1)
			case 1, 2:
				x.needs(r.name(), r.name(), now, int64(r.Intn(30)), r.some(), r.some())
			default:
				x.put(r.mark(now))
			}
			now += int64(r.Intn(8)) - 1
		}
		if t.Failed() {
			return
		}
	}
}

// told answers the mark of what was told.
func told(receiver, key string, now int64, firing, resolved [][]api.Label) api.Mark {
	f, _ := Sorted(firing...)
	r, _ := Sorted(resolved...)
	return api.Mark{Receiver: receiver, Key: key, At: now, Firing: f, Resolved: r}
}

// TestP26_5_Once: behind Put of what is so now, the same is not told until At + repeat, and told from there on, as long as any fires.
func TestP26_5_Once(t *testing.T) {
	r := newSource(265)
	for range 1000 {
		x := newBoth(t)
		now, repeat := int64(r.Intn(100)), int64(1+r.Intn(50))
		firing, resolved := r.some(), r.some()
		if e := x.put(told("team", "k", now, firing, resolved)); e != api.OK {
			t.Fatal(e)
		}
		for _, later := range []int64{0, 1, repeat / 2, repeat - 1, repeat, repeat + 1, 10 * repeat} {
			want := later >= repeat && len(firing) > 0
			if got := x.needs("team", "k", now+later, repeat, firing, resolved); got != want {
				t.Fatal(firing, resolved, later, repeat, got)
			}
		}
	}
}

// TestP26_6_New: an alert that fires and is not in the mark is told.
func TestP26_6_New(t *testing.T) {
	r := newSource(266)
	for range 1000 {
		x := newBoth(t)
		now := int64(r.Intn(100))
		m := told("team", "k", now, r.some(), r.some())
		x.put(m)
		firing := append(r.some(), of("a", "new"))
		r.Shuffle(len(firing), func(i, j int) { firing[i], firing[j] = firing[j], firing[i] })
		if !x.needs("team", "k", now+int64(r.Intn(5)), 50, firing, r.some()) {
			t.Fatal(m, firing)
		}
	}
}

// TestP26_8_Others: the marks of one receiver and key change nothing of others.
func TestP26_8_Others(t *testing.T) {
	r := newSource(268)
	for range 300 {
		x := newBoth(t)
		for range 20 {
			x.put(r.mark(100))
		}
		m := r.mark(100)
		before := slices.Collect(x.l.All())
		e := x.put(m)
		behind := slices.Collect(x.l.All())
		if e == api.OK {
			isIt := func(o api.Mark) bool { return o.Receiver == m.Receiver && o.Key == m.Key }
			before, behind = slices.DeleteFunc(before, isIt), slices.DeleteFunc(behind, isIt)
		}
		if !sameMarks(before, behind) {
			t.Fatal(m, e, before, behind)
		}
	}
}

// TestP26_9_Never: without any firing, now or in the mark, it is never told.
func TestP26_9_Never(t *testing.T) {
	r := newSource(269)
	for range 1000 {
		x := newBoth(t)
		if r.Intn(3) > 0 {
			x.put(told("team", "k", int64(r.Intn(100)), nil, r.some()))
		}
		now := []int64{0, 50, 100, 1000, maxTime}[r.Intn(5)]
		if x.needs("team", "k", now, int64(1+r.Intn(50)), nil, r.some()) {
			t.Fatal(x.m.list, now)
		}
	}
}

// spoil writes into all of a mark's lists, and behind them.
func spoil(m api.Mark) {
	spoilSets(m.Firing)
	spoilSets(m.Resolved)
}

// TestRules_Memory: nothing that is handed in is kept or changed, and what is answered is new.
func TestRules_Memory(t *testing.T) {
	x := newBoth(t)
	shared := sets("1", "2")
	m := mark(100, shared, shared)
	x.put(m)
	spoil(m)
	x.tells()
	room := make([][]api.Label, 1, 5)
	room[0] = append(make([]api.Label, 0, 5), of("a", "3")...)
	m = mark(101, room, room)
	x.put(m)
	spoil(m)
	x.tells()
	x.put(at("team", "j", 100))
	for range 2 {
		got, _ := x.l.Find("team", "k")
		spoilSets(got.Firing)
		if !sameSets(got.Resolved, sets("3")) {
			t.Error(got)
		}
		x.tells()
		for m := range x.l.All() {
			spoil(m)
		}
		x.tells()
	}
	all := x.l.All()
	for m := range all {
		spoil(m)
	}
	if got := slices.Collect(all); !sameMarks(got, x.m.list) {
		t.Error(got)
	}
	records := x.l.Records()
	for i := range records {
		for k := range records[i] {
			records[i][k] = 0xff
		}
		_ = append(records[i], 0xff)
	}
	x.tells()
	firing, resolved := sets("3", "2"), sets("9", "1")
	x.needs("team", "k", 120, 50, firing, resolved)
	if !sameSets(firing, sets("3", "2")) || !sameSets(resolved, sets("9", "1")) {
		t.Error("changed", firing, resolved)
	}
}

// TestRules_Apart: two logs know nothing of each other.
func TestRules_Apart(t *testing.T) {
	x, y := newBoth(t), newBoth(t)
	x.put(at("team", "k", 100))
	y.tells()
	y.put(at("team", "k", 50))
	y.sweep(50, 0)
	x.tells()
}

// FuzzNflog holds a log against its model; each call is made of eight bytes.
func FuzzNflog(f *testing.F) {
	f.Add([]byte("0123456789abcdef0123456789ABCDEF"))
	f.Add([]byte("\x02\x00\x00\x64\x03\x01\x00\x00\x01\x00\x00\x70\x03\x01\x32\x00\x00\x00\x00\x80\x00\x00\x01\x00"))
	f.Fuzz(func(t *testing.T, b []byte) {
		x := newBoth(t)
		names := []string{"a", "b", "ab", "", "\xff", "é"}
		list := func(bits byte) [][]api.Label {
			var l [][]api.Label
			for i := range 6 {
				if bits>>i&1 == 1 {
					l = append(l, of("a", fmt.Sprint(i)))
				}
			}
			if bits >= 240 {
				l = append(l, of("a", "0"))
			}
			if bits >= 128 {
				slices.Reverse(l)
			}
			return l
		}
		for ; len(b) >= 8 && !t.Failed(); b = b[8:] {
			receiver, key := names[int(b[1])%len(names)], names[int(b[2])%len(names)]
			now := int64(int8(b[3])) + 64
			switch b[0] % 4 {
			case 0:
				x.sweep(now, int64(int8(b[6])))
			case 1:
				x.needs(receiver, key, now, int64(b[6]), list(b[4]), list(b[5]))
			default:
				x.put(api.Mark{Receiver: receiver, Key: key, At: now, Firing: list(b[4]), Resolved: list(b[5])})
			}
		}
	})
}
