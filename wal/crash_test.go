package wal

import (
	"fmt"
	"maps"
	"math/rand"
	"slices"
	"strings"
	"testing"

	"tocsin/api"
	"tocsin/disk"
	"tocsin/vint"
)

// modelFile is a file of the model: its bytes, and how many of them are synced.
type modelFile struct {
	bytes  string
	synced int
}

// model is the log by the words of the document, on a disk of its own.
type model struct {
	files   map[string]modelFile
	room    int
	number  int
	records []string
}

func (m *model) name(number int) string {
	return fmt.Sprintf("w.%08d", number)
}

// segments are the numbers of the files that are segments, rising.
func (m *model) segments() []int {
	var out []int
	for name := range m.files {
		var number int
		if n, _ := fmt.Sscanf(name, "w.%d", &number); n == 1 && name == m.name(number) && number >= 1 {
			out = append(out, number)
		}
	}
	slices.Sort(out)
	return out
}

func (m *model) sync(name string) {
	if f, ok := m.files[name]; ok {
		m.files[name] = modelFile{f.bytes, len(f.bytes)}
	}
}

func (m *model) write(name, s string) api.Errno {
	f, ok := m.files[name]
	if !ok && len(m.files) >= api.MaxFiles {
		return api.ErrFull
	}
	m.files[name] = modelFile{f.bytes + s, f.synced}
	return api.OK
}

// open goes step by step; in the end all that it has read is lasting.
func (m *model) open(first int, records []string) {
	delete(m.files, "w.new")
	m.records = slices.Clone(records)
	for _, n := range m.segments() {
		if n < first {
			delete(m.files, m.name(n))
		}
	}
	m.sync("w.check")
	m.number = first
	last := first - 1
	for n := first; ; n++ {
		f, ok := m.files[m.name(n)]
		if !ok {
			break
		}
		last = n
		whole, end, e := vint.Frames([]byte(f.bytes))
		m.records = append(m.records, textsOf(whole)...)
		m.files[m.name(n)] = modelFile{f.bytes[:end], end}
		if e != api.OK {
			break
		}
	}
	for _, n := range m.segments() {
		if n > last {
			delete(m.files, m.name(n))
		} else {
			m.number = n
		}
	}
}

func (m *model) append(r string) api.Errno {
	if len(r) > api.MaxFrame {
		return api.ErrSize
	}
	f := m.files[m.name(m.number)]
	if len(f.bytes) > 0 && len(f.bytes)+len(frame(r)) > m.room {
		m.sync(m.name(m.number))
		m.number++
	}
	if e := m.write(m.name(m.number), frame(r)); e != api.OK {
		return e
	}
	m.records = append(slices.Clone(m.records), r)
	return api.OK
}

func (m *model) checkpoint(r []string) api.Errno {
	content := uvarint(uint64(m.number+1)) + uvarint(uint64(len(r)))
	for _, s := range r {
		content += uvarint(uint64(len(s))) + s
	}
	if len(content) > api.MaxFrame {
		return api.ErrSize
	}
	delete(m.files, "w.new")
	if e := m.write("w.new", frame(content)); e != api.OK {
		return e
	}
	delete(m.files, "w.new")
	for _, n := range m.segments() {
		delete(m.files, m.name(n))
	}
	m.files["w.check"] = modelFile{frame(content), len(frame(content))}
	m.number++
	m.records = slices.Clone(r)
	return api.OK
}

func (m *model) crash(l []api.Keep) {
	for name, f := range m.files {
		kept := 0
		for _, k := range l {
			if k.Name == name {
				kept = k.N
			}
		}
		s := f.bytes[:min(f.synced+kept, len(f.bytes))]
		m.files[name] = modelFile{s, len(s)}
	}
}

func (m *model) shown() string {
	var s strings.Builder
	for _, name := range slices.Sorted(maps.Keys(m.files)) {
		fmt.Fprintf(&s, "%s %x %d\n", name, m.files[name].bytes, m.files[name].synced)
	}
	return s.String()
}

// checkpointed answers what the model's own checkpoint says.
func (m *model) checkpointed() (int, []string) {
	f, ok := m.files["w.check"]
	if !ok {
		return 1, nil
	}
	first, records, ok := parseCheckpoint([]byte(f.bytes))
	if !ok {
		panic("a checkpoint of the model")
	}
	return first, textsOf(records)
}

func randomRecord(r *rand.Rand) string {
	return strings.Repeat(string(rune('a'+r.Intn(26))), []int{0, 1, 1, 2, 3, 5, 9, 11, 12, 30, 130}[r.Intn(11)])
}

func randomRecords(r *rand.Rand) []string {
	var out []string
	for range r.Intn(4) {
		out = append(out, randomRecord(r))
	}
	return out
}

func randomKeeps(r *rand.Rand, d *disk.Disk) []api.Keep {
	var out []api.Keep
	for _, name := range d.List() {
		if have, synced, _ := d.Size(name); r.Intn(4) > 0 {
			out = append(out, api.Keep{Name: name, N: r.Intn(have - synced + 2)})
		}
	}
	return out
}

// Calls in any order, held against the model: what they answer, what is there, and the disk to its last byte.
func TestModel(t *testing.T) {
	r := rand.New(rand.NewSource(7))
	for round := range 400 {
		d := disk.New()
		if round%4 == 0 {
			fill(t, d, 4)
		}
		m := &model{files: map[string]modelFile{}, room: 16 + r.Intn(60)}
		for _, name := range d.List() {
			m.files[name] = modelFile{}
		}
		l, _ := mustOpen(t, d, m.room)
		m.open(1, nil)
		for step := range 60 {
			var got, want api.Errno
			switch r.Intn(12) {
			case 0:
				got, want = l.Sync(), api.OK
				m.sync(m.name(m.number))
			case 1:
				list := randomRecords(r)
				got, want = l.Checkpoint(bytesOf(list)), m.checkpoint(list)
			case 2:
				keeps := randomKeeps(r, d)
				d.Crash(keeps)
				m.crash(keeps)
				fallthrough
			case 3:
				first, records := m.checkpointed()
				m.open(first, records)
				var told []string
				if l, told = mustOpen(t, d, m.room); !slices.Equal(told, m.records) {
					t.Fatalf("round %d, step %d: Open tells %q, not %q", round, step, told, m.records)
				}
			default:
				s := randomRecord(r)
				got, want = l.Append([]byte(s)), m.append(s)
			}
			if got != want || !slices.Equal(all(l), m.records) || l.Len() != len(m.records) || !slices.Equal(l.Segments(), m.segments()) {
				t.Fatalf("round %d, step %d: %d, not %d: %q, not %q", round, step, got, want, all(l), m.records)
			}
			if shown(d) != m.shown() {
				t.Fatalf("round %d, step %d: the disk is\n%snot\n%s", round, step, shown(d), m.shown())
			}
		}
	}
}

// P7.6: behind any call, a crash that keeps any prefix of any file (and of each other one nothing, or all) loses nothing that was synced, and leaves of what came behind it a prefix.
func TestP7_6(t *testing.T) {
	r := rand.New(rand.NewSource(76))
	for range 60 {
		d := disk.New()
		l, _ := mustOpen(t, d, 16+r.Intn(40))
		lasting := 0
		for range 25 {
			before := l.Segments()
			switch r.Intn(8) {
			case 0:
				l.Sync()
				lasting = l.Len()
			case 1:
				if e := l.Checkpoint(bytesOf(randomRecords(r))); e != api.OK {
					t.Fatal("Checkpoint", e)
				}
				lasting = l.Len()
			default:
				mustAppend(t, l, randomRecord(r))
				if len(before) > 0 && len(l.Segments()) > len(before) {
					lasting = l.Len() - 1
				}
			}
			checkCrashes(t, d, all(l), lasting)
		}
	}
}

func checkCrashes(t *testing.T, d *disk.Disk, records []string, lasting int) {
	t.Helper()
	for _, name := range append(d.List(), "none") {
		have, synced, _ := d.Size(name)
		for n := range have - synced + 1 {
			for _, others := range []int{0, api.MaxFile} {
				keeps := []api.Keep{{Name: name, N: n}}
				for _, other := range d.List() {
					if other != name {
						keeps = append(keeps, api.Keep{Name: other, N: others})
					}
				}
				checkCrash(t, d.Copy(), keeps, records, lasting)
			}
		}
	}
}

func checkCrash(t *testing.T, d *disk.Disk, keeps []api.Keep, records []string, lasting int) {
	t.Helper()
	if e := d.Crash(keeps); e != api.OK {
		t.Fatal("Crash", e)
	}
	l, r := mustOpen(t, d, 16)
	if len(r) < lasting || len(r) > len(records) || !slices.Equal(r, records[:len(r)]) {
		t.Fatalf("behind %v: %q, of %q, %d lasting", keeps, r, records, lasting)
	}
	// P7.7, and that the log can go on.
	before := shown(d)
	d.Crash(nil)
	if _, again := mustOpen(t, d, 16); !slices.Equal(again, r) || shown(d) != before {
		t.Fatalf("opened again: %q, not %q", again, r)
	}
	mustAppend(t, l, "on", "and on")
	if _, again := mustOpen(t, d, 16); !slices.Equal(again, append(r, "on", "and on")) {
		t.Fatalf("goes on: %q", again)
	}
}

// P7.5 and P7.7, without a crash ahead: opened again, the log has its records; opened, they outlast any crash.
func TestP7_7(t *testing.T) {
	r := rand.New(rand.NewSource(77))
	for range 200 {
		d := disk.New()
		l, _ := mustOpen(t, d, 16+r.Intn(40))
		for range r.Intn(12) {
			if r.Intn(6) == 0 {
				l.Checkpoint(bytesOf(randomRecords(r)))
			}
			mustAppend(t, l, randomRecord(r))
		}
		numbers := l.Segments()
		again, told := mustOpen(t, d, 16)
		if !slices.Equal(told, all(l)) || !slices.Equal(all(again), told) || !slices.Equal(again.Segments(), numbers) {
			t.Fatal("opened again", told, all(l))
		}
		before := shown(d)
		twice, told2 := mustOpen(t, d, 16)
		if !slices.Equal(told2, told) || shown(d) != before || !slices.Equal(twice.Segments(), numbers) {
			t.Fatal("opened twice", told2)
		}
		d.Crash(nil)
		if shown(d) != before {
			t.Fatal("a crash has changed the disk", shown(d))
		}
		if _, told2 = mustOpen(t, d, 16); !slices.Equal(told2, told) {
			t.Fatal("behind a crash", told2)
		}
	}
}

// P7.7 of files that nobody has synced, the checkpoint and a torn segment among them.
func TestP7_7_Unsynced(t *testing.T) {
	d := disk.New()
	d.Append("w.check", []byte(check(2, "x")))
	d.Append("w.00000002", []byte(frame("a")))
	d.Append("w.00000003", []byte(frame("b")+"torn"))
	for range 3 {
		if _, r := mustOpen(t, d, 16); !slices.Equal(r, []string{"x", "a", "b"}) {
			t.Error(r)
		}
		d.Crash(nil)
	}
}

// P7.8: whatever refuses it, a record is not there, nor is a checkpoint, and not behind a crash either.
func TestP7_8(t *testing.T) {
	for left := range 3 {
		d := disk.New()
		l, _ := mustOpen(t, d, 16)
		fill(t, d, left)
		var taken []string
		for i := range 12 {
			s := fmt.Sprint(i)
			if l.Append([]byte(s)) == api.OK {
				taken = append(taken, s)
			}
			if e := l.Append(make([]byte, api.MaxFrame+1)); e != api.ErrSize {
				t.Error("Append", e)
			}
			if e := l.Checkpoint([][]byte{make([]byte, api.MaxFrame)}); e != api.ErrSize {
				t.Error("Checkpoint", e)
			}
		}
		if len(taken) != 2*left || !slices.Equal(all(l), taken) {
			t.Errorf("room for %d files: %q, not %q", left, all(l), taken)
		}
		if e := l.Checkpoint(nil); e != api.ErrFull {
			t.Error("Checkpoint", e)
		}
		l.Sync()
		d.Crash(nil)
		if _, r := mustOpen(t, d, 16); !slices.Equal(r, taken) {
			t.Errorf("room for %d files: opened again: %q", left, r)
		}
	}
}

// Whatever bytes stand in the files: Open ends, tells frames of them, and the second time the same.
func FuzzWal(f *testing.F) {
	f.Add(check(2, "x"), frame("a"), frame("b")+"t", true)
	f.Add(check(1), frame("a")+frame(""), "", true)
	f.Add("", "\xff\xff", frame("a"), false)
	f.Fuzz(func(t *testing.T, c, one, two string, has bool) {
		d := disk.New()
		if has {
			d.Append("w.check", []byte(c))
		}
		d.Append("w.00000001", []byte(one))
		d.Append("w.00000002", []byte(two))
		l, r, e := Open(d, "w", 16)
		if e != api.OK {
			if l != nil || r != nil || e != api.ErrForm || !has {
				t.Error("Open", r, e)
			}
			return
		}
		d.Crash(nil)
		again, told, e := Open(d, "w", 16)
		if e != api.OK || !slices.Equal(textsOf(told), textsOf(r)) || !slices.Equal(again.Segments(), l.Segments()) {
			t.Error("opened again", told, e)
		}
		if has {
			first, records, ok := parseCheckpoint([]byte(c))
			if !ok || check(uint64(first), textsOf(records)...) != c {
				t.Error("a checkpoint of another form")
			}
		}
		mustAppend(t, again, "on")
		if _, told := mustOpen(t, d, 16); !slices.Equal(told, append(textsOf(r), "on")) {
			t.Error("goes on", told)
		}
	})
}
