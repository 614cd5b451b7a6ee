package disk

import (
	"bytes"
	"fmt"
	"math"
	"math/rand"
	"slices"
	"strings"
	"testing"

	"tocsin/api"
)

// kept is a file of the model: what is synced, what is only written.
type kept struct{ synced, written string }

// model is a disk by the words of the document.
type model map[string]kept

func modelName(s string) bool {
	const signs = "abcdefghijklmnopqrstuvwxyzABCDEFGHIJKLMNOPQRSTUVWXYZ0123456789._-/"
	return len(s) >= 1 && len(s) <= 64 && strings.Trim(s, signs) == "" && !strings.ContainsFunc(s, func(r rune) bool { return !strings.ContainsRune(signs, r) })
}

func (m model) add(name, b string) api.Errno {
	if !modelName(name) {
		return api.ErrName
	}
	f, ok := m[name]
	if !ok && len(m) >= 256 {
		return api.ErrFull
	}
	if len(f.synced)+len(f.written)+len(b) > 1<<20 {
		return api.ErrSize
	}
	f.written += b
	m[name] = f
	return api.OK
}

func (m model) known(name string) (kept, api.Errno) {
	if !modelName(name) {
		return kept{}, api.ErrName
	}
	f, ok := m[name]
	if !ok {
		return kept{}, api.ErrNone
	}
	return f, api.OK
}

func (m model) sync(name string) api.Errno {
	f, e := m.known(name)
	if e == api.OK {
		m[name] = kept{synced: f.synced + f.written}
	}
	return e
}

func (m model) cut(name string, n int) api.Errno {
	f, e := m.known(name)
	if e != api.OK {
		return e
	}
	all := f.synced + f.written
	if n < 0 || n > len(all) {
		return api.ErrArg
	}
	if n <= len(f.synced) {
		m[name] = kept{synced: all[:n]}
	} else {
		m[name] = kept{synced: f.synced, written: all[len(f.synced):n]}
	}
	return api.OK
}

func (m model) rename(from, to string) api.Errno {
	f, e := m.known(from)
	if e == api.ErrName || !modelName(to) {
		return api.ErrName
	}
	if e != api.OK || from == to {
		return e
	}
	m[to] = f
	delete(m, from)
	return api.OK
}

func (m model) remove(name string) api.Errno {
	_, e := m.known(name)
	if e == api.OK {
		delete(m, name)
	}
	return e
}

func (m model) crash(l []api.Keep) api.Errno {
	for i, k := range l {
		if k.N < 0 {
			return api.ErrArg
		}
		for _, o := range l[:i] {
			if o.Name == k.Name {
				return api.ErrArg
			}
		}
	}
	for name, f := range m {
		n := 0
		for _, k := range l {
			if k.Name == name {
				n = min(k.N, len(f.written))
			}
		}
		m[name] = kept{synced: f.synced + f.written[:n]}
	}
	return api.OK
}

func (m model) twin() model {
	o := model{}
	for name, f := range m {
		o[name] = f
	}
	return o
}

// check: the disk is as the model.
func check(t *testing.T, d *Disk, m model, said string) {
	t.Helper()
	var names []string
	for name := range m {
		names = append(names, name)
	}
	slices.Sort(names)
	if l := d.List(); !slices.Equal(l, names) {
		t.Fatalf("%s: List %q, not %q", said, l, names)
	}
	for _, name := range names {
		f := m[name]
		if b, e := d.Read(name); string(b) != f.synced+f.written || e != api.OK {
			t.Fatalf("%s: Read(%q) %q, %d, not %q", said, name, b, e, f.synced+f.written)
		}
		if n, s, e := d.Size(name); n != len(f.synced)+len(f.written) || s != len(f.synced) || e != api.OK {
			t.Fatalf("%s: Size(%q) %d, %d, %d, not of %v", said, name, n, s, e, f)
		}
	}
}

// filled: files with nothing, written bytes, synced ones, both.
func filled(t *testing.T) (*Disk, model) {
	t.Helper()
	d, m := New(), model{"none": {}, "written": {"", "abc"}, "synced": {"12345", ""}, "both": {"123", "4567"}}
	for name, f := range m {
		if e := d.Append(name, []byte(f.synced)); e != api.OK {
			t.Fatal("Append", e)
		}
		if e := d.Sync(name); e != api.OK {
			t.Fatal("Sync", e)
		}
		if e := d.Append(name, []byte(f.written)); e != api.OK {
			t.Fatal("Append", e)
		}
	}
	check(t, d, m, "filled")
	return d, m
}

var wrongNames = []string{"", strings.Repeat("a", 65), strings.Repeat("a", 1000), "a b", "a\x00", "\n", "a:b", "é", "\xff", "a\\b", "a,", "@", "[", "`", "{", "a~", "*"}

func rightNames() []string {
	l := []string{strings.Repeat("a", 64), "/", ".", "..", "-", "_", "a/b.c-d_e", "0", "9", "A", "Z", "a", "z", "block.1"}
	return append(l, strings.Repeat("/", 64))
}

func TestExamples(t *testing.T) {
	d := New()
	if e := d.Append("a", []byte("12")); e != api.OK {
		t.Error("Append", e)
	}
	if e := d.Sync("a"); e != api.OK {
		t.Error("Sync", e)
	}
	if e := d.Append("a", []byte("345")); e != api.OK {
		t.Error("Append", e)
	}
	check(t, d, model{"a": {"12", "345"}}, "written")
	if e := d.Crash([]api.Keep{{Name: "a", N: 1}}); e != api.OK {
		t.Error("Crash", e)
	}
	check(t, d, model{"a": {"123", ""}}, "crashed")
	if e := d.Append("a b", []byte("1")); e != api.ErrName {
		t.Error("Append", e)
	}
	if e := d.Rename("a", "b"); e != api.OK {
		t.Error("Rename", e)
	}
	if b, e := d.Read("a"); b != nil || e != api.ErrNone {
		t.Error("Read", b, e)
	}
}

func TestP3_NilDisk(t *testing.T) {
	var d *Disk
	for _, name := range []string{"a", "a b", ""} {
		if e := d.Append(name, nil); e != api.ErrNil {
			t.Error("Append", e)
		}
		if e := d.Sync(name); e != api.ErrNil {
			t.Error("Sync", e)
		}
		if e := d.Cut(name, -1); e != api.ErrNil {
			t.Error("Cut", e)
		}
		if e := d.Rename(name, name); e != api.ErrNil {
			t.Error("Rename", e)
		}
		if e := d.Remove(name); e != api.ErrNil {
			t.Error("Remove", e)
		}
		if b, e := d.Read(name); b != nil || e != api.ErrNil {
			t.Error("Read", b, e)
		}
		if n, s, e := d.Size(name); n != 0 || s != 0 || e != api.ErrNil {
			t.Error("Size", n, s, e)
		}
	}
	if e := d.Crash([]api.Keep{{Name: "a", N: -1}}); e != api.ErrNil {
		t.Error("Crash", e)
	}
	if d.Copy() != nil || len(d.List()) != 0 {
		t.Error("Copy, List")
	}
}

// A Disk that New has not made is one without files.
func TestP3_ZeroDisk(t *testing.T) {
	d := &Disk{}
	if e := d.Crash(nil); e != api.OK || len(d.List()) != 0 || len(d.Copy().List()) != 0 {
		t.Error("an empty one")
	}
	if e := d.Remove("a"); e != api.ErrNone {
		t.Error("Remove", e)
	}
	if e := d.Append("a", []byte("1")); e != api.OK {
		t.Error("Append", e)
	}
	check(t, d, model{"a": {"", "1"}}, "a zero disk")
}

func TestP3_WrongNames(t *testing.T) {
	d, m := filled(t)
	for _, name := range wrongNames {
		if e := d.Append(name, make([]byte, 1<<20+1)); e != api.ErrName {
			t.Errorf("Append(%q): %d", name, e)
		}
		if e := d.Sync(name); e != api.ErrName {
			t.Errorf("Sync(%q): %d", name, e)
		}
		if e := d.Cut(name, -1); e != api.ErrName {
			t.Errorf("Cut(%q): %d", name, e)
		}
		for _, other := range []string{"both", "gone", name} {
			if e := d.Rename(name, other); e != api.ErrName {
				t.Errorf("Rename(%q, %q): %d", name, other, e)
			}
			if e := d.Rename(other, name); e != api.ErrName {
				t.Errorf("Rename(%q, %q): %d", other, name, e)
			}
		}
		if e := d.Remove(name); e != api.ErrName {
			t.Errorf("Remove(%q): %d", name, e)
		}
		if b, e := d.Read(name); b != nil || e != api.ErrName {
			t.Errorf("Read(%q): %q, %d", name, b, e)
		}
		if n, s, e := d.Size(name); n != 0 || s != 0 || e != api.ErrName {
			t.Errorf("Size(%q): %d, %d, %d", name, n, s, e)
		}
	}
	check(t, d, m, "wrong names")
}

// Each byte, alone and at the end of a name, is one of a name or not.
func TestP3_NamesByTheirBytes(t *testing.T) {
	for c := range 256 {
		for _, name := range []string{string([]byte{byte(c)}), string([]byte{'a', byte(c)}), string([]byte{byte(c), 'a'})} {
			want := api.OK
			if !modelName(name) {
				want = api.ErrName
			}
			if e := New().Append(name, nil); e != want {
				t.Errorf("Append(%q): %d, not %d", name, e, want)
			}
		}
	}
	d, m := New(), model{}
	for _, name := range rightNames() {
		if e := d.Append(name, []byte(name)); e != api.OK {
			t.Errorf("Append(%q): %d", name, e)
		}
		m.add(name, name)
	}
	check(t, d, m, "right names")
}

func TestP3_1_New(t *testing.T) {
	check(t, New(), model{}, "new")
	a, b := New(), New()
	a.Append("a", nil)
	check(t, b, model{}, "another one")
}

func TestP3_1_AppendOfNothing(t *testing.T) {
	d := New()
	if e := d.Append("a", nil); e != api.OK {
		t.Error(e)
	}
	if e := d.Append("b", []byte{}); e != api.OK {
		t.Error(e)
	}
	check(t, d, model{"a": {}, "b": {}}, "empty files")
	if e := d.Crash(nil); e != api.OK {
		t.Error(e)
	}
	check(t, d, model{"a": {}, "b": {}}, "that a file is there lasts")
}

func TestP3_1_MaxFiles(t *testing.T) {
	d, m := New(), model{}
	for i := range 256 {
		name := fmt.Sprint("f", i)
		if e := d.Append(name, []byte{byte(i)}); e != api.OK {
			t.Fatal(name, e)
		}
		m.add(name, string([]byte{byte(i)}))
	}
	check(t, d, m, "256 files")
	for _, b := range [][]byte{nil, []byte("1"), make([]byte, 1<<20+1)} {
		if e := d.Append("one", b); e != api.ErrFull {
			t.Error("one more", e)
		}
	}
	if e := d.Append("f7", make([]byte, 1<<20)); e != api.ErrSize {
		t.Error("too long", e)
	}
	if e := d.Append("a b", nil); e != api.ErrName {
		t.Error("no name", e)
	}
	check(t, d, m, "refused")
	if e := d.Append("f7", []byte("on")); e != api.OK {
		t.Error("one that is there", e)
	}
	if e := d.Rename("f8", "other"); e != api.OK {
		t.Error("renamed", e)
	}
	if e := d.Append("f8", nil); e != api.ErrFull {
		t.Error("one more", e)
	}
	if e := d.Remove("f9"); e != api.OK {
		t.Error("removed", e)
	}
	if e := d.Append("one", nil); e != api.OK {
		t.Error("room for one", e)
	}
	if e := d.Append("f9", nil); e != api.ErrFull {
		t.Error("one more", e)
	}
}

func TestP3_1_MaxFile(t *testing.T) {
	d := New()
	whole := bytes.Repeat([]byte("x"), 1<<20)
	if e := d.Append("a", whole); e != api.OK {
		t.Error(e)
	}
	if e := d.Append("b", append(whole, 'x')); e != api.ErrSize {
		t.Error(e)
	}
	if e := d.Append("a", []byte("x")); e != api.ErrSize {
		t.Error(e)
	}
	if e := d.Append("a", nil); e != api.OK {
		t.Error(e)
	}
	if e := d.Append("c", whole[1:]); e != api.OK {
		t.Error(e)
	}
	if e := d.Append("c", []byte("xx")); e != api.ErrSize {
		t.Error(e)
	}
	if e := d.Append("c", []byte("x")); e != api.OK {
		t.Error(e)
	}
	check(t, d, model{"a": {"", string(whole)}, "c": {"", string(whole)}}, "whole files")
}

func TestP3_1_Sync(t *testing.T) {
	d, m := filled(t)
	if e := d.Sync("gone"); e != api.ErrNone {
		t.Error(e)
	}
	check(t, d, m, "refused")
	for _, name := range d.List() {
		if e := d.Sync(name); e != api.OK {
			t.Error(name, e)
		}
		m.sync(name)
		check(t, d, m, "synced "+name)
	}
}

func TestP3_1_Cut(t *testing.T) {
	for _, n := range []int{math.MinInt, -1, 0, 1, 2, 3, 4, 6, 7, 8, math.MaxInt} {
		for _, name := range []string{"none", "written", "synced", "both", "gone"} {
			d, m := filled(t)
			if e, want := d.Cut(name, n), m.cut(name, n); e != want {
				t.Errorf("Cut(%s, %d): %d, not %d", name, n, e, want)
			}
			check(t, d, m, fmt.Sprint("cut ", name, n))
			// What lay behind the cut is gone, and what was synced ahead of it still is.
			d.Append(name, []byte("xy"))
			m.add(name, "xy")
			check(t, d, m, fmt.Sprint("appended ", name, n))
			d.Crash(nil)
			m.crash(nil)
			check(t, d, m, fmt.Sprint("crashed ", name, n))
		}
	}
}

func TestP3_2_Rename(t *testing.T) {
	names := []string{"none", "written", "synced", "both", "gone", "other"}
	for _, from := range names {
		for _, to := range names {
			d, m := filled(t)
			if e, want := d.Rename(from, to), m.rename(from, to); e != want {
				t.Errorf("Rename(%s, %s): %d, not %d", from, to, e, want)
			}
			check(t, d, m, "renamed "+from+" "+to)
			d.Append(to, []byte("z"))
			m.add(to, "z")
			d.Append(from, []byte("y"))
			m.add(from, "y")
			check(t, d, m, "appended "+from+" "+to)
		}
	}
}

func TestP3_2_Remove(t *testing.T) {
	d, m := filled(t)
	if e := d.Remove("gone"); e != api.ErrNone {
		t.Error(e)
	}
	check(t, d, m, "refused")
	if e := d.Remove("both"); e != api.OK {
		t.Error(e)
	}
	m.remove("both")
	check(t, d, m, "removed")
	if e := d.Remove("both"); e != api.ErrNone {
		t.Error("twice", e)
	}
	if e := d.Append("both", []byte("9")); e != api.OK {
		t.Error(e)
	}
	m.add("both", "9")
	check(t, d, m, "begun anew")
}

func TestP3_3_NoSuchFile(t *testing.T) {
	d, m := filled(t)
	if b, e := d.Read("gone"); b != nil || e != api.ErrNone {
		t.Error("Read", b, e)
	}
	if n, s, e := d.Size("gone"); n != 0 || s != 0 || e != api.ErrNone {
		t.Error("Size", n, s, e)
	}
	check(t, d, m, "asked")
}

func TestP3_3_ListByBytes(t *testing.T) {
	d := New()
	for _, name := range []string{"b", "a/b", "ab", "a.b", "a_b", "a-b", "aB", "a", "B", "_", "a0", "0"} {
		d.Append(name, nil)
	}
	want := []string{"0", "B", "_", "a", "a-b", "a.b", "a/b", "a0", "aB", "a_b", "ab", "b"}
	for range 20 {
		if l := d.List(); !slices.Equal(l, want) {
			t.Fatalf("%q", l)
		}
	}
}

func TestP3_3_Copy(t *testing.T) {
	d, m := filled(t)
	c, n := d.Copy(), m.twin()
	check(t, c, n, "copied")
	d.Append("both", []byte("8"))
	c.Append("both", []byte("9"))
	d.Sync("written")
	c.Remove("synced")
	d.Rename("none", "some")
	c.Append("new", nil)
	m.add("both", "8")
	n.add("both", "9")
	m.sync("written")
	n.remove("synced")
	m.rename("none", "some")
	n.add("new", "")
	check(t, d, m, "the one")
	check(t, c, n, "the other")
	d.Crash(nil)
	m.crash(nil)
	check(t, d, m, "the one crashed")
	check(t, c, n, "the other did not")
}

func TestP3_4_Crash(t *testing.T) {
	keeps := [][]api.Keep{
		nil,
		{},
		{{Name: "both", N: 0}},
		{{Name: "both", N: 2}},
		{{Name: "both", N: 4}},
		{{Name: "both", N: 5}},
		{{Name: "both", N: math.MaxInt}},
		{{Name: "written", N: 1}, {Name: "both", N: 3}, {Name: "synced", N: 9}, {Name: "none", N: 9}},
		{{Name: "gone", N: 3}},
		{{Name: "a b", N: 3}, {Name: "", N: 1}, {Name: strings.Repeat("a", 65), N: 2}, {Name: "written", N: 2}},
		{{Name: "both", N: -1}},
		{{Name: "both", N: math.MinInt}},
		{{Name: "both", N: 1}, {Name: "both", N: 1}},
		{{Name: "both", N: 1}, {Name: "written", N: 2}, {Name: "both", N: 0}},
		{{Name: "gone", N: 1}, {Name: "gone", N: 2}},
		{{Name: "gone", N: -1}},
		{{Name: "", N: -1}},
		{{Name: "a b", N: 1}, {Name: "a b", N: 1}},
		{{Name: "both", N: 2}, {Name: "written", N: -3}},
	}
	for _, l := range keeps {
		d, m := filled(t)
		before := slices.Clone(l)
		if e, want := d.Crash(l), m.crash(l); e != want {
			t.Errorf("Crash(%v): %d, not %d", l, e, want)
		}
		check(t, d, m, fmt.Sprint("crashed ", l))
		if !slices.Equal(l, before) {
			t.Error("the list was changed")
		}
		// Behind a crash all is synced, so that a second one takes nothing.
		d.Crash(nil)
		m.crash(nil)
		check(t, d, m, fmt.Sprint("crashed again ", l))
	}
}

func TestP3_6_CrashIsAPrefix(t *testing.T) {
	for n := range 9 {
		d, _ := filled(t)
		l := []api.Keep{{Name: "both", N: n}, {Name: "written", N: n}}
		was := d.Copy()
		d.Crash(l)
		for _, name := range was.List() {
			old, _ := was.Read(name)
			_, synced, _ := was.Size(name)
			b, e := d.Read(name)
			if e != api.OK || !bytes.HasPrefix(old, b) || len(b) < synced {
				t.Errorf("%s: %q of %q, %d synced", name, b, old, synced)
			}
		}
		again := d.Copy()
		again.Crash(l)
		for _, name := range d.List() {
			a, _ := d.Read(name)
			b, _ := again.Read(name)
			if !bytes.Equal(a, b) {
				t.Errorf("%s: %q, then %q", name, a, b)
			}
		}
	}
}

func TestP3_7_AppendsComeToOne(t *testing.T) {
	r := rand.New(rand.NewSource(7))
	for range 100 {
		one, many, all := New(), New(), []byte{}
		for range r.Intn(20) {
			b := make([]byte, r.Intn(50))
			r.Read(b)
			many.Append("a", b)
			all = append(all, b...)
		}
		many.Append("a", nil)
		one.Append("a", all)
		check(t, many, model{"a": {"", string(all)}}, "many")
		check(t, one, model{"a": {"", string(all)}}, "one")
	}
}

// No list that is handed in is kept, and none that is answered is the disk's own.
func TestP3_Memory(t *testing.T) {
	d, m := filled(t)
	b := []byte("abcdefgh")
	d.Append("new", b[:4])
	m.add("new", "abcd")
	copy(b, "XXXXXXXX")
	check(t, d, m, "what was handed in")

	in := make([]byte, 4, 64)
	copy(in, "1234")
	d.Append("roomy", in)
	m.add("roomy", "1234")
	d.Append("roomy", []byte("5"))
	m.add("roomy", "5")
	if s := string(in[:5]); s != "1234\x00" {
		t.Errorf("the list was written behind its end: %q", s)
	}
	_ = append(in, "ZZ"...)
	check(t, d, m, "what was handed in, with room")

	for _, name := range d.List() {
		out, _ := d.Read(name)
		other, _ := d.Read(name)
		_ = append(out, "!!"...)
		out = out[:cap(out)]
		for i := range out {
			out[i] = '!'
		}
		if f := m[name]; string(other) != f.synced+f.written {
			t.Errorf("two answers share memory: %q", other)
		}
	}
	check(t, d, m, "what was answered")

	l := d.List()
	for i := range l {
		l[i] = "!"
	}
	_ = append(l[:0], "?")
	check(t, d, m, "the names that were answered")

	// Behind a cut the disk goes on in its own memory, which no answer sees.
	d.Append("both", []byte("tail"))
	m.add("both", "tail")
	out, _ := d.Read("both")
	was := string(out)
	d.Cut("both", 1)
	m.cut("both", 1)
	d.Append("both", []byte("WWWWWW"))
	m.add("both", "WWWWWW")
	check(t, d, m, "cut")
	if string(out) != was {
		t.Errorf("an earlier answer was changed: %q", out)
	}
}

// any calls: the disk does as the model, P3.5 and P3.8 among it, and so does a copy of it.
func anyCalls(t *testing.T, script []byte) {
	d, m := New(), model{}
	names := []string{"a", "b", "a/b", "c.1", "", "a b"}
	next := func() int {
		if len(script) == 0 {
			return 0
		}
		c := script[0]
		script = script[1:]
		return int(c)
	}
	for len(script) > 0 {
		op, name := next()%9, names[next()%len(names)]
		var e, want api.Errno
		switch op {
		case 0, 1:
			b := strings.Repeat(string(rune('a'+next()%26)), next()%7)
			e, want = d.Append(name, []byte(b)), m.add(name, b)
		case 2:
			e, want = d.Sync(name), m.sync(name)
		case 3:
			n := next()%20 - 1
			e, want = d.Cut(name, n), m.cut(name, n)
		case 4:
			to := names[next()%len(names)]
			e, want = d.Rename(name, to), m.rename(name, to)
		case 5:
			e, want = d.Remove(name), m.remove(name)
		case 6:
			var l []api.Keep
			for range next() % 4 {
				l = append(l, api.Keep{Name: names[next()%len(names)], N: next()%12 - 1})
			}
			e, want = d.Crash(l), m.crash(l)
		case 7:
			old, was := d, m.twin()
			d = d.Copy()
			check(t, d, m, "copied")
			d.Append("a", []byte("1"))
			m.add("a", "1")
			check(t, old, was, "that was copied")
		default:
			_, e = d.Read(name)
			_, want = m.known(name)
		}
		if e != want {
			t.Fatalf("call %d of %q: %d, not %d", op, name, e, want)
		}
		check(t, d, m, fmt.Sprint("behind call ", op, " of ", name))
	}
}

func TestP3_5_P3_8_AsTheModel(t *testing.T) {
	r := rand.New(rand.NewSource(3))
	for range 300 {
		script := make([]byte, 300)
		r.Read(script)
		anyCalls(t, script)
	}
}

func FuzzDisk(f *testing.F) {
	f.Add([]byte{0, 0, 1, 5, 2, 0, 0, 0, 2, 3, 6, 1, 0, 2})
	f.Add([]byte{0, 0, 1, 5, 4, 0, 0, 7, 0, 3, 0, 2})
	f.Fuzz(func(t *testing.T, script []byte) {
		anyCalls(t, script[:min(len(script), 1000)])
	})
}
