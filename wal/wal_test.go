package wal

import (
	"bytes"
	"fmt"
	"math"
	"slices"
	"strings"
	"testing"

	"tocsin/api"
	"tocsin/disk"
	"tocsin/vint"
)

func frame(p string) string {
	b, e := vint.PutFrame(nil, []byte(p))
	if e != api.OK {
		panic("PutFrame")
	}
	return string(b)
}

func uvarint(n uint64) string {
	return string(vint.PutU(nil, n))
}

// check is the bytes of a checkpoint.
func check(first uint64, records ...string) string {
	s := uvarint(first) + uvarint(uint64(len(records)))
	for _, r := range records {
		s += uvarint(uint64(len(r))) + r
	}
	return frame(s)
}

// diskOf is a disk with these files, all synced.
func diskOf(files map[string]string) *disk.Disk {
	d := disk.New()
	for name, s := range files {
		if d.Append(name, []byte(s)) != api.OK || d.Sync(name) != api.OK {
			panic("diskOf")
		}
	}
	return d
}

// shown tells all of a disk: names, bytes, how many are synced.
func shown(d *disk.Disk) string {
	var s strings.Builder
	for _, name := range d.List() {
		b, _ := d.Read(name)
		_, synced, _ := d.Size(name)
		fmt.Fprintf(&s, "%s %x %d\n", name, b, synced)
	}
	return s.String()
}

func mustOpen(t *testing.T, d *disk.Disk, room int) (*Log, []string) {
	t.Helper()
	l, r, e := Open(d, "w", room)
	if l == nil || e != api.OK {
		t.Fatal("Open", e)
	}
	return l, textsOf(r)
}

func mustAppend(t *testing.T, l *Log, records ...string) {
	t.Helper()
	for _, r := range records {
		if e := l.Append([]byte(r)); e != api.OK {
			t.Fatal("Append", e)
		}
	}
}

func textsOf(l [][]byte) []string {
	var out []string
	for _, b := range l {
		out = append(out, string(b))
	}
	return out
}

func bytesOf(l []string) [][]byte {
	var out [][]byte
	for _, s := range l {
		out = append(out, []byte(s))
	}
	return out
}

func all(l *Log) []string {
	var out []string
	for r := range l.All() {
		out = append(out, string(r))
	}
	return out
}

// fill lays files on the disk until so many more find room.
func fill(t *testing.T, d *disk.Disk, left int) {
	t.Helper()
	for i := 0; len(d.List()) < api.MaxFiles-left; i++ {
		if e := d.Append(fmt.Sprint("fill/", i), nil); e != api.OK {
			t.Fatal("fill", e)
		}
	}
}

func TestExamples(t *testing.T) {
	d := disk.New()
	l, r := mustOpen(t, d, 16)
	if len(r) != 0 || len(d.List()) != 0 || l.Len() != 0 || len(l.Segments()) != 0 {
		t.Fatal("Open of an empty disk", r, d.List())
	}
	mustAppend(t, l, "a", "a")
	if n, _, _ := d.Size("w.00000001"); n != 12 {
		t.Error("two records", n)
	}
	mustAppend(t, l, "a")
	if s := l.Segments(); !slices.Equal(s, []int{1, 2}) || !slices.Equal(d.List(), []string{"w.00000001", "w.00000002"}) {
		t.Error("a third record", s, d.List())
	}
	d.Crash([]api.Keep{{Name: "w.00000002", N: 3}})
	l, r = mustOpen(t, d, 16)
	if !slices.Equal(r, []string{"a", "a"}) || l.Len() != 2 {
		t.Error("behind a crash", r)
	}
	if e := l.Checkpoint([][]byte{[]byte("x")}); e != api.OK {
		t.Error("Checkpoint", e)
	}
	if !slices.Equal(d.List(), []string{"w.check"}) || len(l.Segments()) != 0 || l.Len() != 1 {
		t.Error("behind the checkpoint", d.List())
	}
	mustAppend(t, l, "b")
	if !slices.Equal(d.List(), []string{"w.00000003", "w.check"}) || !slices.Equal(l.Segments(), []int{3}) {
		t.Error("b", d.List())
	}
	if l, r = mustOpen(t, d, 16); !slices.Equal(r, []string{"x", "b"}) || !slices.Equal(all(l), r) {
		t.Error("Open", r)
	}
}

func TestP7_1_Arguments(t *testing.T) {
	long := strings.Repeat("n", 40)
	for _, c := range []struct {
		name string
		room int
		e    api.Errno
	}{
		{"w", 16, api.OK},
		{"w", api.MaxFile, api.OK},
		{long, 16, api.OK},
		{"azAZ09_-", 100, api.OK},
		{"-", 16, api.OK},
		{"0", 16, api.OK},
		{"", 16, api.ErrName},
		{long + "n", 16, api.ErrName},
		{"a.b", 16, api.ErrName},
		{"a/b", 16, api.ErrName},
		{"a b", 16, api.ErrName},
		{"a\x00", 16, api.ErrName},
		{"ä", 16, api.ErrName},
		{"a@", 16, api.ErrName},
		{"a[", 16, api.ErrName},
		{"a`", 16, api.ErrName},
		{"a{", 16, api.ErrName},
		{"a:", 16, api.ErrName},
		{"w", 15, api.ErrArg},
		{"w", api.MaxFile + 1, api.ErrArg},
		{"w", 0, api.ErrArg},
		{"w", -16, api.ErrArg},
		{"w", math.MinInt, api.ErrArg},
		{"w", math.MaxInt, api.ErrArg},
		{"", 15, api.ErrName},
	} {
		d := diskOf(map[string]string{"w.new": "n"})
		before := shown(d)
		l, r, e := Open(d, c.name, c.room)
		if e != c.e || (l != nil) != (e == api.OK) || len(r) != 0 {
			t.Errorf("Open(%q, %d) = %v %v %d, not %d", c.name, c.room, l != nil, r, e, c.e)
		}
		if e != api.OK && shown(d) != before {
			t.Errorf("Open(%q, %d) has changed the disk", c.name, c.room)
		}
		if l, r, e := Open(nil, c.name, c.room); l != nil || r != nil || e != api.ErrNil {
			t.Errorf("Open(nil, %q, %d) = %v %v %d", c.name, c.room, l, r, e)
		}
	}
	for c := range 256 {
		letter := c >= 'a' && c <= 'z' || c >= 'A' && c <= 'Z'
		want := api.ErrName
		if letter || c >= '0' && c <= '9' || c == '_' || c == '-' {
			want = api.OK
		}
		for _, name := range []string{string([]byte{byte(c)}), "a" + string([]byte{byte(c)}), string([]byte{byte(c)}) + "a"} {
			if _, _, e := Open(disk.New(), name, 16); e != want {
				t.Errorf("Open(%q) = %d", name, e)
			}
		}
	}
}

// The longest name and the longest number make names that the disk takes.
func TestP7_1_LongName(t *testing.T) {
	d := disk.New()
	name := strings.Repeat("n", 40)
	l, _, e := Open(d, name, 16)
	if e != api.OK || l.Append([]byte("a")) != api.OK || l.Checkpoint(nil) != api.OK || l.Append([]byte("b")) != api.OK {
		t.Fatal(e, d.List())
	}
	if !slices.Equal(d.List(), []string{name + ".00000002", name + ".check"}) {
		t.Error(d.List())
	}
}

// Step 1, and what it does where step 2 ends in an error.
func TestP7_1_New(t *testing.T) {
	d := diskOf(map[string]string{"w.new": "anything", "w.00000001": frame("a"), "v.new": "stays"})
	if _, r := mustOpen(t, d, 16); !slices.Equal(r, []string{"a"}) {
		t.Error(r)
	}
	if !slices.Equal(d.List(), []string{"v.new", "w.00000001"}) {
		t.Error(d.List())
	}
}

func TestP7_1_Checkpoint(t *testing.T) {
	whole := check(3, "x", "", "yz")
	content := uvarint(3) + uvarint(3) + "\x01x" + "\x00" + "\x02yz"
	if frame(content) != whole {
		t.Fatal("a checkpoint's form")
	}
	wrong := []string{
		"",
		"x",
		whole + "\x00",
		whole + whole,
		whole + frame(""),
		frame(""),
		frame("\x03"),
		check(0),
		check(0, "x"),
		check(100000000),
		check(math.MaxUint64),
		check(1<<32 + 3),
		frame(content + "\x00"),
		frame(content + "x"),
		frame(uvarint(3) + uvarint(4) + "\x01x" + "\x00" + "\x02yz"),
		frame(uvarint(3) + uvarint(2) + "\x01x" + "\x00" + "\x02yz"),
		frame(uvarint(3) + uvarint(0) + "\x01x"),
		frame(uvarint(3) + uvarint(math.MaxUint64) + "\x01x"),
		frame(uvarint(3) + uvarint(1<<63) + "\x01x"),
		frame(uvarint(3) + uvarint(1<<32) + "\x01x"),
		frame(uvarint(3) + uvarint(1) + uvarint(math.MaxUint64) + "x"),
		frame(uvarint(3) + uvarint(1) + uvarint(1<<63) + "x"),
		frame(uvarint(3) + uvarint(1) + uvarint(api.MaxFrame+1) + strings.Repeat("x", 100)),
		frame(uvarint(3) + uvarint(1) + uvarint(2) + "x"),
		frame("\x83\x00" + uvarint(1) + "\x01x"),
		frame("\x03" + "\x81\x00" + "\x01x"),
		frame("\x03" + "\x01" + "\x81\x00x"),
		frame(strings.Repeat("\xff", 10)),
		"\x81\x80\x04" + strings.Repeat("x", api.MaxFrame+5),
	}
	for cut := range len(whole) {
		wrong = append(wrong, whole[:cut])
	}
	for cut := range len(content) {
		wrong = append(wrong, frame(content[:cut]))
	}
	for i := range 8 * len(whole) {
		b := []byte(whole)
		b[i/8] ^= 1 << (i % 8)
		wrong = append(wrong, string(b))
	}
	for _, s := range wrong {
		files := map[string]string{"w.check": s, "w.00000001": "old", "w.00000003": frame("c") + "torn", "w.00000009": "x", "w.new": "n"}
		d := diskOf(files)
		delete(files, "w.new")
		if l, r, e := Open(d, "w", 16); l != nil || r != nil || e != api.ErrForm {
			t.Errorf("Open of %.40x = %v %q %d", s, l, r, e)
		}
		if shown(d) != shown(diskOf(files)) {
			t.Errorf("Open of %.40x left\n%s", s, shown(d))
		}
	}
}

func TestP7_1_RightCheckpoint(t *testing.T) {
	most := strings.Repeat("m", api.MaxFrame-5)
	for _, c := range []struct {
		first   uint64
		records []string
		goesOn  string
	}{
		{1, nil, "w.00000001"},
		{1, []string{""}, "w.00000001"},
		{7, []string{"x", "", "yz", strings.Repeat("long", 100)}, "w.00000007"},
		{7, []string{most}, "w.00000007"},
		{99999999, []string{"x"}, "w.99999999"},
	} {
		d := diskOf(map[string]string{"w.check": check(c.first, c.records...)})
		l, r := mustOpen(t, d, 16)
		if !slices.Equal(r, c.records) || !slices.Equal(all(l), c.records) || l.Len() != len(c.records) {
			t.Errorf("Open of %d: %d records", c.first, len(r))
		}
		if !slices.Equal(d.List(), []string{"w.check"}) || len(l.Segments()) != 0 {
			t.Error("Open has made files", d.List())
		}
		mustAppend(t, l, "b")
		if !slices.Equal(d.List(), []string{c.goesOn, "w.check"}) {
			t.Error("goes on in", d.List())
		}
	}
}

// Steps 3, 4 and 5, of files as they may stand.
func TestP7_1_Segments(t *testing.T) {
	a, b, c := frame("a"), frame("b"), frame("c")
	for _, x := range []struct {
		what   string
		files  map[string]string
		told   []string
		left   map[string]string
		goesOn int
	}{
		{"none", nil, nil, nil, 1},
		{"one", map[string]string{"1": a + b}, []string{"a", "b"}, map[string]string{"1": a + b}, 1},
		{"three", map[string]string{"1": a, "2": b, "3": c}, []string{"a", "b", "c"}, map[string]string{"1": a, "2": b, "3": c}, 3},
		{"more than nine", map[string]string{"1": a, "2": "", "3": "", "4": "", "5": "", "6": "", "7": "", "8": "", "9": b, "10": c},
			[]string{"a", "b", "c"}, map[string]string{"1": a, "2": "", "3": "", "4": "", "5": "", "6": "", "7": "", "8": "", "9": b, "10": c}, 10},
		{"the first is not there", map[string]string{"2": a, "3": b}, nil, nil, 1},
		{"a gap", map[string]string{"1": a, "3": b, "4": c}, []string{"a"}, map[string]string{"1": a}, 1},
		{"far behind a gap", map[string]string{"1": a, "99999999": b}, []string{"a"}, map[string]string{"1": a}, 1},
		{"an empty one amid", map[string]string{"1": a, "2": "", "3": c}, []string{"a", "c"}, map[string]string{"1": a, "2": "", "3": c}, 3},
		{"an empty record", map[string]string{"1": frame("") + a}, []string{"", "a"}, map[string]string{"1": frame("") + a}, 1},
		{"below the checkpoint", map[string]string{"check": check(3, "x"), "1": a, "2": b, "3": c}, []string{"x", "c"}, map[string]string{"check": check(3, "x"), "3": c}, 3},
		{"all below", map[string]string{"check": check(3, "x"), "1": a, "2": "torn"}, []string{"x"}, map[string]string{"check": check(3, "x")}, 3},
		{"the checkpoint's first is not there", map[string]string{"check": check(3, "x"), "2": b, "4": c}, []string{"x"}, map[string]string{"check": check(3, "x")}, 3},
		{"torn first", map[string]string{"1": a + "\x01", "2": b, "3": c}, []string{"a"}, map[string]string{"1": a}, 1},
		{"torn amid", map[string]string{"1": a, "2": b + "\x80\x00" + b, "3": c}, []string{"a", "b"}, map[string]string{"1": a, "2": b}, 2},
		{"torn last", map[string]string{"1": a, "2": b, "3": c + c[:5]}, []string{"a", "b", "c"}, map[string]string{"1": a, "2": b, "3": c}, 3},
		{"torn at once", map[string]string{"1": a, "2": "\x05", "3": c}, []string{"a"}, map[string]string{"1": a, "2": ""}, 2},
		{"torn ahead of a gap", map[string]string{"1": a + "x", "3": c, "5": c}, []string{"a"}, map[string]string{"1": a}, 1},
		{"the last number", map[string]string{"check": check(99999998), "99999998": a, "99999999": b}, []string{"a", "b"},
			map[string]string{"check": check(99999998), "99999998": a, "99999999": b}, 99999999},
	} {
		d := diskOf(segmentFiles(x.files))
		l, r := mustOpen(t, d, api.MaxFile)
		if !slices.Equal(r, x.told) || !slices.Equal(all(l), x.told) || l.Len() != len(x.told) {
			t.Errorf("%s: %q", x.what, r)
		}
		if want := shown(diskOf(segmentFiles(x.left))); shown(d) != want {
			t.Errorf("%s: left\n%snot\n%s", x.what, shown(d), want)
		}
		mustAppend(t, l, "more")
		if got, _ := d.Read(fmt.Sprintf("w.%08d", x.goesOn)); !strings.HasSuffix(string(got), frame("more")) {
			t.Errorf("%s: goes on elsewhere:\n%s", x.what, shown(d))
		}
		if _, r = mustOpen(t, d, api.MaxFile); !slices.Equal(r, append(slices.Clone(x.told), "more")) {
			t.Errorf("%s: opened again: %q", x.what, r)
		}
	}
}

// segmentFiles names files by their numbers.
func segmentFiles(l map[string]string) map[string]string {
	out := map[string]string{}
	for end, s := range l {
		if end != "check" {
			end = strings.Repeat("0", 8-len(end)) + end
		}
		out["w."+end] = s
	}
	return out
}

// Files that are no segments of this log stay as they are.
func TestP7_1_OtherFiles(t *testing.T) {
	others := map[string]string{
		"w": "1", "w.": "2", "w.0000002": "3", "w.000000002": "4", "w.0000000x": "5", "w.00000002x": "6", "w.00000002.": "7",
		"v.00000002": "8", "ww.00000002": "9", "w-00000002": "10", "w/00000002": "11", "W.00000002": "12", "w.100000000": "13",
		"w.checks": "14", "w.new2": "15", "x.w.00000002": "16", "w.-0000002": "17", "w.00000000": "18", "block.1": "19",
	}
	d := diskOf(others)
	before := shown(d)
	l, r := mustOpen(t, d, 16)
	if shown(d) != before || len(r) != 0 || len(l.Segments()) != 0 {
		t.Errorf("Open has changed\n%s", shown(d))
	}
	mustAppend(t, l, "a", "b", "c")
	if s := l.Segments(); !slices.Equal(s, []int{1, 2}) {
		t.Error("Segments", s)
	}
	if l.Checkpoint(nil) != api.OK || d.Remove("w.check") != api.OK || shown(d) != before {
		t.Errorf("Checkpoint has changed\n%s", shown(d))
	}
}

// A fault of a frame, at every place and in each of three segments.
func TestP7_1_EveryFault(t *testing.T) {
	parts := [][]string{{"a", "", "long record"}, {"d", "e"}, {"f", "gh", "i"}}
	var whole []string
	for _, l := range parts {
		s := ""
		for _, r := range l {
			s += frame(r)
		}
		whole = append(whole, s)
	}
	for at, s := range whole {
		for cut := range len(s) {
			checkFault(t, parts, whole, at, s[:cut], true)
			for bit := range 8 {
				b := []byte(s)
				b[cut] ^= 1 << bit
				checkFault(t, parts, whole, at, string(b), false)
			}
		}
	}
}

// checkFault opens the segments with the one at the place at changed. Where it was only cut, and just behind a frame, there is no fault.
func checkFault(t *testing.T, parts [][]string, whole []string, at int, changed string, cut bool) {
	t.Helper()
	files := map[string]string{}
	for i, s := range whole {
		files[fmt.Sprintf("w.%08d", i+1)] = s
	}
	files[fmt.Sprintf("w.%08d", at+1)] = changed
	told, end, e := vint.Frames([]byte(changed))
	if !cut && e == api.OK {
		t.Fatal("a turned bit is no fault")
	}
	want := slices.Concat(parts[:at]...)
	want = append(want, textsOf(told)...)
	if e == api.OK {
		want = append(want, slices.Concat(parts[at+1:]...)...)
	} else {
		files[fmt.Sprintf("w.%08d", at+1)] = changed[:end]
		for i := at + 2; i <= len(whole); i++ {
			delete(files, fmt.Sprintf("w.%08d", i))
		}
	}
	d := diskOf(nil)
	for i, s := range whole {
		if i == at {
			s = changed
		}
		d.Append(fmt.Sprintf("w.%08d", i+1), []byte(s))
	}
	_, r := mustOpen(t, d, 16)
	if !slices.Equal(r, want) || shown(d) != shown(diskOf(files)) {
		t.Errorf("segment %d as %x: %q, not %q:\n%s", at+1, changed, r, want, shown(d))
	}
}

func TestP7_2_Sizes(t *testing.T) {
	d := disk.New()
	l, _ := mustOpen(t, d, api.MaxFile)
	most := strings.Repeat("m", api.MaxFrame)
	mustAppend(t, l, "", most)
	before := shown(d)
	for _, n := range []int{api.MaxFrame + 1, 2 * api.MaxFrame} {
		if e := l.Append(make([]byte, n)); e != api.ErrSize {
			t.Error("Append of", n, e)
		}
	}
	if shown(d) != before || l.Len() != 2 || !slices.Equal(all(l), []string{"", most}) {
		t.Error("a refused record has changed something")
	}
	mustAppend(t, l, "")
	if e := l.Append(nil); e != api.OK {
		t.Error("Append(nil)", e)
	}
	if b, _ := d.Read("w.00000001"); string(b) != frame("")+frame(most)+frame("")+frame("") {
		t.Error("the segment", len(b))
	}
	if _, r := mustOpen(t, d, api.MaxFile); !slices.Equal(r, []string{"", most, "", ""}) {
		t.Error("opened again", len(r))
	}
}

// A segment that is just full takes no more; one byte more begins the next one; a first record may be longer than the room.
func TestP7_2_Room(t *testing.T) {
	for _, c := range []struct {
		room     int
		records  []string
		segments []int // bytes of each
	}{
		{16, []string{"a", "bbbbb"}, []int{16}},
		{17, []string{"a", "bbbbb"}, []int{16}},
		{16, []string{"a", "bbbbbb"}, []int{6, 11}},
		{16, []string{"a", "bbbbb", ""}, []int{16, 5}},
		{16, []string{strings.Repeat("l", 100)}, []int{105}},
		{16, []string{strings.Repeat("l", 100), ""}, []int{105, 5}},
		{16, []string{strings.Repeat("l", 100), strings.Repeat("k", 200), "a", "b", "c"}, []int{105, 206, 12, 6}},
		{16, []string{"", "", "", ""}, []int{15, 5}},
		{16, []string{"12345678901"}, []int{16}},
		{16, []string{"123456789012"}, []int{17}},
		{16, []string{"12345678901", ""}, []int{16, 5}},
		{api.MaxFile, slices.Repeat([]string{strings.Repeat("m", api.MaxFrame)}, 16), []int{15 * (api.MaxFrame + 7), api.MaxFrame + 7}},
		{16, slices.Repeat([]string{strings.Repeat("m", api.MaxFrame)}, 2), []int{api.MaxFrame + 7, api.MaxFrame + 7}},
	} {
		d := disk.New()
		l, _ := mustOpen(t, d, c.room)
		for i, r := range c.records {
			before := l.Segments()
			mustAppend(t, l, r)
			after := l.Segments()
			// What the log leaves behind is synced, what it goes on in is not.
			for _, n := range after {
				have, synced, _ := d.Size(fmt.Sprintf("w.%08d", n))
				if last := n == after[len(after)-1]; last && synced != 0 || !last && synced != have {
					t.Errorf("room %d, record %d: %d of %d synced of segment %d", c.room, i, synced, have, n)
				}
			}
			if len(after) < len(before) || len(after) > len(before)+1 {
				t.Error("segments", before, after)
			}
		}
		var got []int
		for i, n := range l.Segments() {
			have, _, _ := d.Size(fmt.Sprintf("w.%08d", n))
			if n != i+1 {
				t.Error("numbers", l.Segments())
			}
			got = append(got, have)
		}
		if !slices.Equal(got, c.segments) || !slices.Equal(all(l), c.records) {
			t.Errorf("room %d: %d, not %d", c.room, got, c.segments)
		}
		if _, r := mustOpen(t, d, c.room); !slices.Equal(r, c.records) {
			t.Errorf("room %d: opened again: %d records", c.room, len(r))
		}
	}
}

// A segment of the greatest file, to its last byte.
func TestP7_2_FullFile(t *testing.T) {
	d := disk.New()
	l, _ := mustOpen(t, d, api.MaxFile)
	for range 15 {
		mustAppend(t, l, strings.Repeat("m", api.MaxFrame))
	}
	have, _, _ := d.Size("w.00000001")
	rest := api.MaxFile - have - 7
	mustAppend(t, l, strings.Repeat("r", rest))
	if have, _, _ = d.Size("w.00000001"); have != api.MaxFile || !slices.Equal(l.Segments(), []int{1}) {
		t.Error("just full", have, l.Segments())
	}
	mustAppend(t, l, "")
	if !slices.Equal(l.Segments(), []int{1, 2}) || l.Len() != 17 {
		t.Error("one more", l.Segments())
	}
}

// A segment from before, opened with another room.
func TestP7_2_OtherRoom(t *testing.T) {
	d := disk.New()
	l, _ := mustOpen(t, d, 1000)
	mustAppend(t, l, "a", "b", "c", "d")
	l, _ = mustOpen(t, d, 16)
	mustAppend(t, l, "e", "f")
	if !slices.Equal(l.Segments(), []int{1, 2}) {
		t.Error(l.Segments())
	}
	l, _ = mustOpen(t, d, 1000)
	mustAppend(t, l, "g")
	if b, _ := d.Read("w.00000002"); string(b) != frame("e")+frame("f")+frame("g") {
		t.Errorf("%q", b)
	}
}

func TestP7_2_LastNumber(t *testing.T) {
	d := diskOf(map[string]string{"w.check": check(99999999, "x")})
	l, _ := mustOpen(t, d, 16)
	mustAppend(t, l, "a", "b")
	if !slices.Equal(l.Segments(), []int{99999999}) {
		t.Error(l.Segments())
	}
	for range 2 {
		if e := l.Append([]byte("c")); e != api.ErrFull {
			t.Error("Append", e)
		}
		if have, synced, _ := d.Size("w.99999999"); have != 12 || synced != 12 {
			t.Error("a sync stays", have, synced)
		}
		if !slices.Equal(d.List(), []string{"w.99999999", "w.check"}) || !slices.Equal(all(l), []string{"x", "a", "b"}) {
			t.Error("a refused record", d.List(), all(l))
		}
	}
	if e := l.Sync(); e != api.OK {
		t.Error("Sync", e)
	}
	if e := l.Append(make([]byte, api.MaxFrame+1)); e != api.ErrSize {
		t.Error("ErrSize is ahead of ErrFull", e)
	}
	before := shown(d)
	if e := l.Checkpoint(nil); e != api.ErrFull || shown(d) != before || l.Len() != 3 {
		t.Error("Checkpoint", e)
	}
	if e := l.Checkpoint([][]byte{make([]byte, api.MaxFrame+1)}); e != api.ErrSize {
		t.Error("ErrSize is ahead of ErrFull", e)
	}
}

func TestP7_3_LastNumber(t *testing.T) {
	d := diskOf(map[string]string{"w.check": check(99999998, "x")})
	l, _ := mustOpen(t, d, 16)
	if e := l.Checkpoint(bytesOf([]string{"y"})); e != api.OK {
		t.Fatal("Checkpoint", e)
	}
	if b, _ := d.Read("w.check"); string(b) != check(99999999, "y") {
		t.Errorf("w.check: %x", b)
	}
	mustAppend(t, l, "a")
	if e := l.Checkpoint(bytesOf([]string{"z"})); e != api.ErrFull {
		t.Error("Checkpoint", e)
	}
	if _, r := mustOpen(t, d, 16); !slices.Equal(r, []string{"y", "a"}) {
		t.Error(r)
	}
}

// The disk refuses a new segment: the sync and the number stay, the record is not there.
func TestP7_2_FullDisk(t *testing.T) {
	d := disk.New()
	l, _ := mustOpen(t, d, 16)
	fill(t, d, 0)
	if e := l.Append([]byte("a")); e != api.ErrFull || l.Len() != 0 || len(l.Segments()) != 0 {
		t.Error("the first segment", e)
	}
	if e := l.Sync(); e != api.OK {
		t.Error("Sync without a file", e)
	}
	d.Remove("fill/0")
	mustAppend(t, l, "a", "b")
	for range 2 {
		if e := l.Append([]byte("c")); e != api.ErrFull || l.Len() != 2 {
			t.Error("the second segment", e)
		}
		if have, synced, _ := d.Size("w.00000001"); have != 12 || synced != 12 {
			t.Error("a sync stays", have, synced)
		}
	}
	// The next number stays: what would have found room in the old segment is refused too.
	if e := l.Append(nil); e != api.ErrFull {
		t.Error("the log goes on in the old segment", e)
	}
	if e := l.Sync(); e != api.OK || !slices.Equal(l.Segments(), []int{1}) {
		t.Error("Sync", e, l.Segments())
	}
	_, r := mustOpen(t, d.Copy(), 16)
	if !slices.Equal(r, []string{"a", "b"}) {
		t.Error("opened again", r)
	}
	d.Remove("fill/1")
	mustAppend(t, l, "d")
	if !slices.Equal(l.Segments(), []int{1, 2}) || !slices.Equal(all(l), []string{"a", "b", "d"}) {
		t.Error("with room again", l.Segments())
	}
	if _, r = mustOpen(t, d, 16); !slices.Equal(r, []string{"a", "b", "d"}) {
		t.Error("opened again", r)
	}
}

func TestP7_2_Sync(t *testing.T) {
	d := disk.New()
	l, _ := mustOpen(t, d, 100)
	if e := l.Sync(); e != api.OK || len(d.List()) != 0 {
		t.Error("Sync of none", e)
	}
	mustAppend(t, l, "a", "b")
	if _, synced, _ := d.Size("w.00000001"); synced != 0 {
		t.Error("Append has synced", synced)
	}
	d.Append("other", []byte("x"))
	if e := l.Sync(); e != api.OK {
		t.Error("Sync", e)
	}
	if have, synced, _ := d.Size("w.00000001"); have != 12 || synced != 12 {
		t.Error("Sync", have, synced)
	}
	if _, synced, _ := d.Size("other"); synced != 0 {
		t.Error("Sync has synced another file")
	}
}

func TestP7_3_Sizes(t *testing.T) {
	room := api.MaxFrame - len(uvarint(2)) - len(uvarint(1)) - len(uvarint(65000))
	for _, c := range []struct {
		r []string
		e api.Errno
	}{
		{nil, api.OK},
		{[]string{""}, api.OK},
		{[]string{"x", "", strings.Repeat("y", 300)}, api.OK},
		{[]string{strings.Repeat("m", room)}, api.OK},
		{[]string{strings.Repeat("m", room+1)}, api.ErrSize},
		{[]string{strings.Repeat("m", room-1), ""}, api.OK},
		{[]string{strings.Repeat("m", room), ""}, api.ErrSize},
		{[]string{strings.Repeat("m", api.MaxFrame)}, api.ErrSize},
		{[]string{strings.Repeat("m", api.MaxFrame+1)}, api.ErrSize},
		{[]string{"x", strings.Repeat("m", api.MaxFrame+1)}, api.ErrSize},
		{slices.Repeat([]string{""}, api.MaxFrame-4), api.OK},
		{slices.Repeat([]string{""}, api.MaxFrame-3), api.ErrSize},
		{slices.Repeat([]string{"xx"}, api.MaxFrame), api.ErrSize},
	} {
		d := disk.New()
		l, _ := mustOpen(t, d, 16)
		mustAppend(t, l, "a", "b")
		before := shown(d)
		e := l.Checkpoint(bytesOf(c.r))
		if e != c.e {
			t.Errorf("Checkpoint of %d records = %d, not %d", len(c.r), e, c.e)
		}
		if e != api.OK {
			if shown(d) != before || !slices.Equal(all(l), []string{"a", "b"}) {
				t.Error("a refused checkpoint has changed something")
			}
			mustAppend(t, l, "")
			if _, r := mustOpen(t, d, 16); !slices.Equal(r, []string{"a", "b", ""}) {
				t.Error("behind a refused checkpoint", r)
			}
			continue
		}
		if want := shown(diskOf(map[string]string{"w.check": check(2, c.r...)})); shown(d) != want {
			t.Errorf("Checkpoint of %d records: %.200s", len(c.r), shown(d))
		}
		if !slices.Equal(all(l), c.r) || l.Len() != len(c.r) || len(l.Segments()) != 0 {
			t.Error("behind a checkpoint", l.Len())
		}
		if _, r := mustOpen(t, d, 16); !slices.Equal(r, c.r) {
			t.Error("opened again", len(r))
		}
	}
}

// Each checkpoint takes the next number, the segments there are or not, and takes the place of the one ahead.
func TestP7_3_Again(t *testing.T) {
	d := disk.New()
	l, _ := mustOpen(t, d, 16)
	for i := range 5 {
		if e := l.Checkpoint(bytesOf([]string{fmt.Sprint(i)})); e != api.OK {
			t.Fatal("Checkpoint", e)
		}
		if b, _ := d.Read("w.check"); string(b) != check(uint64(i+2), fmt.Sprint(i)) {
			t.Errorf("checkpoint %d: %x", i, b)
		}
	}
	mustAppend(t, l, "a", "b", "c", "d", "e")
	if !slices.Equal(l.Segments(), []int{6, 7, 8}) {
		t.Error(l.Segments())
	}
	if e := l.Checkpoint(bytesOf([]string{"z"})); e != api.OK {
		t.Fatal("Checkpoint", e)
	}
	if want := diskOf(map[string]string{"w.check": check(9, "z")}); shown(d) != shown(want) {
		t.Error(shown(d))
	}
	mustAppend(t, l, "f")
	if !slices.Equal(l.Segments(), []int{9}) || !slices.Equal(all(l), []string{"z", "f"}) {
		t.Error(l.Segments())
	}
}

func TestP7_3_FullDisk(t *testing.T) {
	for _, segments := range []int{0, 1, 3} {
		d := disk.New()
		l, _ := mustOpen(t, d, 16)
		mustAppend(t, l, slices.Repeat([]string{"a"}, 2*segments)...)
		fill(t, d, 0)
		before := shown(d)
		if e := l.Checkpoint(bytesOf([]string{"x"})); e != api.ErrFull || shown(d) != before || l.Len() != 2*segments {
			t.Error("Checkpoint", e)
		}
		// A file NAME.new that is in the way is removed, and makes room.
		d.Rename("fill/0", "w.new")
		d.Append("w.new", []byte("left over"))
		if e := l.Checkpoint(bytesOf([]string{"x"})); e != api.OK {
			t.Fatal("Checkpoint", e)
		}
		if b, _ := d.Read("w.check"); string(b) != check(uint64(max(segments, 1)+1), "x") {
			t.Errorf("w.check %x", b)
		}
		if _, e := d.Read("w.new"); e != api.ErrNone || len(l.Segments()) != 0 || !slices.Equal(all(l), []string{"x"}) {
			t.Error("behind the checkpoint", e, l.Segments())
		}
	}
}

// A checkpoint that is refused for what it is given leaves a file NAME.new too.
func TestP7_3_RefusedLeavesNew(t *testing.T) {
	d := disk.New()
	l, _ := mustOpen(t, d, 16)
	d.Append("w.new", []byte("x"))
	before := shown(d)
	if e := l.Checkpoint([][]byte{make([]byte, api.MaxFrame+1)}); e != api.ErrSize || shown(d) != before {
		t.Error(e, shown(d))
	}
}

// Segments that others have laid beside the log's go with them.
func TestP7_3_AllSegments(t *testing.T) {
	d := disk.New()
	l, _ := mustOpen(t, d, 16)
	mustAppend(t, l, "a")
	d.Append("w.00000002", []byte(frame("no")))
	d.Append("w.00000003", []byte(frame("no")))
	if !slices.Equal(l.Segments(), []int{1, 2, 3}) {
		t.Error(l.Segments())
	}
	if e := l.Checkpoint(nil); e != api.OK || !slices.Equal(d.List(), []string{"w.check"}) {
		t.Error(e, d.List())
	}
}

func TestNilLog(t *testing.T) {
	for _, l := range []*Log{nil, {}} {
		if e := l.Append([]byte("a")); e != api.ErrNil {
			t.Error("Append", e)
		}
		if e := l.Append(make([]byte, api.MaxFrame+1)); e != api.ErrNil {
			t.Error("Append", e)
		}
		if e := l.Sync(); e != api.ErrNil {
			t.Error("Sync", e)
		}
		if e := l.Checkpoint(nil); e != api.ErrNil {
			t.Error("Checkpoint", e)
		}
		if e := l.Checkpoint([][]byte{make([]byte, api.MaxFrame+1)}); e != api.ErrNil {
			t.Error("Checkpoint", e)
		}
		if l.Len() != 0 || len(l.Segments()) != 0 || len(all(l)) != 0 {
			t.Error("a nil log has something")
		}
	}
}

func TestP7_4_All(t *testing.T) {
	d := disk.New()
	l, _ := mustOpen(t, d, 16)
	if l.Checkpoint(bytesOf([]string{"x", "y"})) != api.OK {
		t.Fatal("Checkpoint")
	}
	mustAppend(t, l, "a", "b", "c")
	seq := l.All()
	for range 2 {
		var got []string
		for r := range seq {
			got = append(got, string(r))
			r[0] = '!'
			_ = append(r, "beyond"...)
			if len(got) == 3 {
				break
			}
		}
		if !slices.Equal(got, []string{"x", "y", "a"}) {
			t.Error("left early", got)
		}
	}
	// What comes later is not in what was asked ahead of it.
	mustAppend(t, l, "d")
	var got []string
	for r := range seq {
		got = append(got, string(r))
		mustAppend(t, l, "more")
	}
	if !slices.Equal(got, []string{"x", "y", "a", "b", "c"}) {
		t.Error("gone through again", got)
	}
	if l.Checkpoint(nil) != api.OK || l.Len() != 0 || len(all(l)) != 0 {
		t.Error("Checkpoint of none")
	}
	got = nil
	for r := range seq {
		got = append(got, string(r))
	}
	if !slices.Equal(got, []string{"x", "y", "a", "b", "c"}) {
		t.Error("behind a checkpoint", got)
	}
}

// Rules 4 and 5: nothing that is handed in is changed or kept, nothing that is answered is shared.
func TestMemory(t *testing.T) {
	d := diskOf(map[string]string{"w.check": check(1, "check", "point"), "w.00000001": frame("one") + frame("two")})
	want := []string{"check", "point", "one", "two"}
	l, r, _ := Open(d, "w", 100)
	for _, b := range r {
		_ = append(b, "beyond what is there"...)
	}
	if !slices.Equal(textsOf(r), want) {
		t.Error("the records share memory", textsOf(r))
	}
	for _, b := range r {
		clear(b)
	}
	r[0] = nil
	if !slices.Equal(all(l), want) {
		t.Error("the log has the answer's memory", all(l))
	}
	numbers := l.Segments()
	numbers[0] = 9
	_ = append(numbers, 10)
	if !slices.Equal(l.Segments(), []int{1}) {
		t.Error("Segments", l.Segments())
	}
	in := []byte("three")
	room := append(make([]byte, 0, 100), in...)
	if l.Append(room) != api.OK || !bytes.Equal(room, in) || !bytes.Equal(room[:100][5:], make([]byte, 95)) {
		t.Error("Append has changed what it was given")
	}
	clear(room)
	if !slices.Equal(all(l), append(want, "three")) {
		t.Error("Append keeps what it was given", all(l))
	}
	list := bytesOf([]string{"x", "y"})
	if l.Checkpoint(list) != api.OK || !slices.Equal(textsOf(list), []string{"x", "y"}) {
		t.Error("Checkpoint has changed what it was given")
	}
	list[0][0] = 'z'
	list[1] = nil
	if !slices.Equal(all(l), []string{"x", "y"}) {
		t.Error("Checkpoint keeps what it was given", all(l))
	}
	if _, r := mustOpen(t, d, 100); !slices.Equal(r, []string{"x", "y"}) {
		t.Error("opened again", r)
	}
}

// Two logs of one disk know nothing of each other, whatever their names.
func TestTwoLogs(t *testing.T) {
	d := disk.New()
	names := []string{"w", "ww", "w-", "w_1", "00000001", "check", "new"}
	logs := map[string]*Log{}
	for round := range 3 {
		for _, name := range names {
			l, r, e := Open(d, name, 16)
			if e != api.OK || len(r) != round {
				t.Fatal("Open", name, r, e)
			}
			logs[name] = l
			mustAppend(t, l, name)
		}
		if round == 1 {
			if logs["w"].Checkpoint(bytesOf([]string{"1", "2"})) != api.OK {
				t.Fatal("Checkpoint")
			}
		}
	}
	for _, name := range names {
		want := []string{name, name, name}
		if name == "w" {
			want = []string{"1", "2", "w"}
		}
		if !slices.Equal(all(logs[name]), want) {
			t.Error(name, all(logs[name]))
		}
	}
}
