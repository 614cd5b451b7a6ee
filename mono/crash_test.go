package mono

import (
	"fmt"
	"slices"
	"strings"
	"testing"

	"tocsin/api"
	"tocsin/config"
)

// counted are a group whose rule records at each evaluation, and one that has an alert.
const counted = `receiver team
group g every 1s
record x expr time()
alert "A" for 2s expr up == 0
route receiver team wait 1s repeat 1h
`

// What is not synced is kept as far as Keeps say: nothing, all, or the records that are whole.
func TestCrash_Keeps(t *testing.T) {
	made := func() *Machine {
		m := loaded(t, counted)
		wrote(t, m, "up 0\n")
		ticks(t, m, 0)
		ticks(t, m, 1000)
		return m
	}
	m := made()
	have, synced, _ := m.disk.Size("data.00000001")
	// Two recorded samples, and the alerts behind each, are not synced.
	lengths := []int{}
	for _, r := range logged(t, m)[3:] {
		lengths = append(lengths, len(r)+5)
	}
	if len(lengths) != 4 || have-synced != lengths[0]+lengths[1]+lengths[2]+lengths[3] {
		t.Fatal(have, synced, lengths)
	}
	for n := range have - synced + 2 {
		m := made()
		did(t, m, crash(api.Keep{Name: "data.00000001", N: n}, api.Keep{Name: "nothing", N: 7}, api.Keep{Name: "", N: 7}))
		records := 0
		for left := n; records < 4 && left >= lengths[records]; records++ {
			left -= lengths[records]
		}
		if got := kinds(t, m); got != "3411414"[:3+records] {
			t.Fatal(n, got)
		}
		if got := len(times(m, "x")); got != (records+1)/2 {
			t.Fatal(n, got)
		}
		if got := m.Active(); len(got) != min(1, records/2) || len(got) > 0 && (got[0].State != api.SPending || got[0].Since != 0) {
			t.Fatal(n, got)
		}
		// It goes on: an evaluation that is known is not made again, any other one is.
		ticks(t, m, 1000)
		want := []int64{0, 1000}
		if records == 0 {
			want = want[1:]
		}
		if got := times(m, "x"); !slices.Equal(got, want) {
			t.Fatal(n, got)
		}
	}
}

// The clock and who refuses stay; the set of alerts, the board and the sender are empty.
func TestCrash_Stays(t *testing.T) {
	m := loaded(t, "receiver team\nreceiver other\ngroup g every 1m\nalert \"A\" expr up == 0\nroute receiver team by job wait 2s\nroute parent 0 receiver other match {job=\"b\"} continue\n")
	wrote(t, m, "up{job=\"a\"} 0\nup{job=\"b\"} 0\n")
	did(t, m, refuse("other"))
	ticks(t, m, 500)
	did(t, m, crash(all("data.00000001")))
	if m.Now() != 500 || len(m.Alerts()) != 0 || len(m.Active()) != 2 || m.sender.Len() != 0 || m.board.Len() != 0 {
		t.Error(shown(m))
	}
	// Until the next evaluation nobody is told.
	for at := int64(500); at < 60000; at += 500 {
		ticks(t, m, at)
	}
	ticks(t, m, 60000, "team a/")
	if len(m.Alerts()) != 2 || m.sender.Len() != 1 {
		t.Error(m.Alerts())
	}
	did(t, m, crash(all("data.00000001")))
	did(t, m, take("other"))
	ticks(t, m, 60000)
	if m.sender.Len() != 0 {
		t.Error("it still waits")
	}
	ticks(t, m, 120000, "other b/") // team was told, and its mark is there
}

// Behind a crash, again and again, nothing changes but by the first one.
func TestCrash_Twice(t *testing.T) {
	m := loaded(t, counted)
	wrote(t, m, "up 0\n")
	ticks(t, m, 0)
	ticks(t, m, 1000)
	did(t, m, crash(api.Keep{Name: "data.00000001", N: 30}))
	was := shown(m)
	for _, e := range []api.Entry{crash(), crash(all("data.00000001")), crash(api.Keep{Name: "data.00000001"}), crash(all("data.check"))} {
		if did(t, m, e); shown(m) != was {
			t.Errorf("%v: %s; want %s", e, shown(m), was)
		}
	}
	fresh := New()
	was = shown(fresh)
	if did(t, fresh, crash()); shown(fresh) != was {
		t.Error("a new machine")
	}
	if did(t, fresh, crash(all("data.00000001"))); shown(fresh) != was {
		t.Error("a new machine")
	}
}

func TestCrash_Refused(t *testing.T) {
	m := loaded(t, counted)
	wrote(t, m, "up 0\n")
	ticks(t, m, 0)
	was := shown(m)
	for _, l := range [][]api.Keep{
		{{Name: "data.00000001", N: -1}},
		{{Name: "nothing", N: -1}},
		{{Name: "", N: -1 << 63}},
		{{Name: "data.00000001", N: 1}, {Name: "data.00000001", N: 1}},
		{{Name: "a"}, {Name: "b"}, {Name: "a"}},
	} {
		if out, e := m.Step(crash(l...)); out != nil || e != api.ErrArg || shown(m) != was {
			t.Error(l, out, e)
		}
	}
}

// Behind a reload: the configuration holds, loaded when it was, and what it kept goes on.
func TestCrash_Reload(t *testing.T) {
	m := loaded(t, counted)
	wrote(t, m, "up 0\n")
	ticks(t, m, 0)
	ticks(t, m, 1000)
	reloaded(t, m, counted+"group h every 1s\nalert \"B\" expr up == 0\n")
	want := shown(m)
	did(t, m, crash())
	if shown(m) != want {
		t.Errorf("%s; want %s", shown(m), want)
	}
	ticks(t, m, 2000)
	if got := fmt.Sprint(m.Active()); got != "[{[{alertname A}] 2 0 2000 -1 0} {[{alertname B}] 2 2000 2000 -1 0}]" {
		t.Error(got)
	}
	// The last evaluation was not synced: it is as if it had not been, but that its time is now.
	did(t, m, crash())
	if got := fmt.Sprint(m.Active()); got != "[{[{alertname A}] 1 0 -1 -1 0}]" {
		t.Error(got)
	}
	ticks(t, m, 2000)
	if got := fmt.Sprint(m.Active()); got != "[{[{alertname A}] 2 0 2000 -1 0} {[{alertname B}] 2 2000 2000 -1 0}]" {
		t.Error(got)
	}
	// Another configuration: its own groups, all new.
	reloaded(t, m, "receiver x\nroute receiver x\ngroup g every 2s\nalert \"A\" for 2s expr up == 0\n")
	did(t, m, crash())
	if c, at := m.Config(); c.Receivers[0] != "x" || at != 2000 || len(m.Active()) != 0 {
		t.Error(c, at, m.Active())
	}
}

func TestCrash_Silence(t *testing.T) {
	m := loaded(t, "receiver team\ngroup g every 1s\nalert \"A\" expr up == 0\nroute receiver team wait 1s\n")
	wrote(t, m, "up 0\n")
	says(t, m, quiet(`{alertname="A"}`, 0, 5000), 200, `{"id":1}`)
	did(t, m, crash())
	for at := int64(0); at < 5000; at += 1000 {
		ticks(t, m, at)
	}
	if s := m.Silences(); len(s) != 1 || s[0].To != 5000 {
		t.Error(s)
	}
	says(t, m, del("/api/silences?id=1"), 200, `{"id":1}`)
	did(t, m, crash())
	if s := m.Silences(); len(s) != 1 || s[0].To != 4000 {
		t.Error(s)
	}
	says(t, m, quiet(`{a="1"}`, 0, 9000), 200, `{"id":2}`)
	ticks(t, m, 5000)
	ticks(t, m, 6000, "team /")
}

// Behind a notification: its mark keeps the same from being told again.
func TestCrash_Notice(t *testing.T) {
	m := loaded(t, "receiver team\ngroup g every 1s\nalert \"A\" expr up == 0\nroute receiver team wait 0s interval 1s repeat 30s\n")
	wrote(t, m, "up 0\n")
	ticks(t, m, 0, "team /")
	did(t, m, crash())
	if marks := m.Marks(); len(marks) != 1 || marks[0].At != 0 {
		t.Error(marks)
	}
	if a := m.Active(); len(a) != 1 || a[0].State != api.SFiring {
		t.Error(a)
	}
	for at := int64(1000); at < 30000; at += 1000 {
		ticks(t, m, at)
	}
	ticks(t, m, 30000, "team /")
}

// written answers a machine of which so many records are samples, all written at one go.
func written(t *testing.T, n int) *Machine {
	t.Helper()
	m := New()
	var b strings.Builder
	for i := range n {
		fmt.Fprintf(&b, "up{job=\"%c\"} %d %d\n", 'a'+i%2, i, i)
	}
	wrote(t, m, b.String())
	return m
}

// With forty records the log goes on; with one more it begins anew.
func TestCheckpoint(t *testing.T) {
	m := written(t, 40)
	was := shown(m)
	if ticks(t, m, 0); shown(m) != was {
		t.Error("a checkpoint of 40 records")
	}
	wrote(t, m, "up{job=\"a\"} 7 90\n")
	before := bitsOf(m.Series())
	answer := did(t, m, query("up"))[0].Answer
	ticks(t, m, 100)
	if got := m.Files(); !slices.Equal(got, []string{"block.1", "data.check"}) {
		t.Error(got)
	}
	if got := kinds(t, m); got != "346" {
		t.Error(got)
	}
	if got := logged(t, m)[2]; got != "\x06\x01\x01" {
		t.Errorf("%q", got)
	}
	if m.head.Len() != 0 || m.head.Samples() != 0 || bitsOf(m.Series()) != before || did(t, m, get("/api/query?time=0&query=up"))[0].Answer != answer {
		t.Error(shown(m))
	}
	did(t, m, crash())
	if bitsOf(m.Series()) != before {
		t.Error("lost by a crash")
	}
	// An older sample is fine, now that its series is new in the head; and it is in the place of that of the block.
	wrote(t, m, "up{job=\"a\"} 99 0\n")
	did(t, m, crash())
	if got := bitsOf(m.Series()); got != strings.Replace(before, " 0:0 ", " 0:4058c00000000000 ", 1) {
		t.Error(got)
	}
	if got := m.Files(); !slices.Equal(got, []string{"block.1", "data.00000002", "data.check"}) {
		t.Error(got)
	}
}

// All else that there is stands in the checkpoint.
func TestCheckpoint_All(t *testing.T) {
	m := loaded(t, "receiver team\ngroup g every 1s\nalert \"A\" expr up == 0\nroute receiver team by job wait 0s\n")
	wrote(t, m, "up{job=\"a\"} 0\nup{job=\"b\"} 0\n")
	says(t, m, quiet(`{x="1"}`, 0, 100), 200, `{"id":1}`)
	says(t, m, quiet(`{x="2"}`, 0, 100), 200, `{"id":2}`)
	ticks(t, m, 0, "team a/", "team b/")
	for i := range 60 {
		wrote(t, m, fmt.Sprintf("z %d %d\n", i, i))
	}
	want := fmt.Sprint(m.Active(), m.Silences(), m.Marks()) + bitsOf(m.Series())
	ticks(t, m, 1)
	if got := kinds(t, m); got != "3224556" {
		t.Error(got)
	}
	for range 3 {
		if got := fmt.Sprint(m.Active(), m.Silences(), m.Marks()) + bitsOf(m.Series()); got != want {
			t.Errorf("%s; want %s", got, want)
		}
		did(t, m, crash())
	}
	if c, at := m.Config(); len(c.Groups) != 1 || at != 0 {
		t.Error(c, at)
	}
}

// A sample at the last of all times goes into the block as any other.
func TestCheckpoint_LastTime(t *testing.T) {
	m := written(t, 40)
	wrote(t, m, fmt.Sprintf("up{job=\"z\"} 1 %d\n", maxTime))
	ticks(t, m, 0)
	says(t, m, get("/status"), 200, `{"now":0,"series":0,"samples":0,"blocks":1,"silences":0,"requests":2,"notices":0}`)
	if got := times(m, "up"); len(got) != 41 || got[40] != maxTime {
		t.Error(got)
	}
}

// Several blocks, one checkpoint after another.
func TestCheckpoint_Blocks(t *testing.T) {
	b := newBoth(t)
	for i := range 12 {
		var lines strings.Builder
		for k := range 41 {
			fmt.Fprintf(&lines, "up{n=\"%d\"} %d %d\n", k%3, i, 7*k-3*i%5+9)
		}
		b.step(post("/api/write", lines.String()))
		b.step(tick(int64(i)))
		if i%3 == 0 {
			b.step(crash())
		}
	}
	if n := b.m.store.Blocks(); n < 8 || len(b.m.Files()) != n+1 {
		t.Error(n, b.m.Files())
	}
	says(t, b.m, get("/status"), 200, fmt.Sprintf(`{"now":11,"series":0,"samples":0,"blocks":%d,"silences":0,"requests":12,"notices":0}`, b.m.store.Blocks()))
}

// Without samples in the head there is no block; and what is above forty records is so again at the next tick.
func TestCheckpoint_NoSamples(t *testing.T) {
	m := New()
	for i := range 40 {
		says(t, m, quiet(`{a="1"}`, 0, 100), 200, fmt.Sprintf(`{"id":%d}`, i+1))
	}
	if ticks(t, m, 0); !slices.Equal(m.Files(), []string{"data.00000001"}) {
		t.Error(m.Files())
	}
	says(t, m, quiet(`{a="1"}`, 0, 100), 200, `{"id":41}`)
	ticks(t, m, 0)
	for i := range 3 {
		if !slices.Equal(m.Files(), []string{"data.check"}) || kinds(t, m) != "3"+strings.Repeat("2", 41)+"46" || m.store.Blocks() != 0 {
			t.Error(m.Files(), kinds(t, m))
		}
		if last := logged(t, m)[43]; last != "\x06\x00" {
			t.Errorf("%q", last)
		}
		ticks(t, m, int64(i))
	}
	wrote(t, m, "up 1\n")
	if got := m.Files(); !slices.Equal(got, []string{"data.00000005", "data.check"}) {
		t.Error(got)
	}
	ticks(t, m, 10)
	if got := m.Files(); !slices.Equal(got, []string{"block.1", "data.check"}) {
		t.Error(got)
	}
}

// fill leaves a disk with so many files.
func fill(t *testing.T, m *Machine, files int) {
	t.Helper()
	for i := 0; len(m.disk.List()) < files; i++ {
		if e := m.disk.Append(fmt.Sprintf("z/%d", i), nil); e != api.OK {
			t.Fatal(e)
		}
	}
}

// On a disk that is full there is no checkpoint, and all stays; with room again there is one.
func TestCheckpoint_FullDisk(t *testing.T) {
	for files, goes := range map[int]bool{256: false, 255: false, 254: true} {
		m := written(t, 41)
		fill(t, m, files)
		was := shown(m)
		ticks(t, m, 0)
		if gone := shown(m) != was; gone != goes {
			t.Errorf("with %d files: %v", files, m.Files()[:4])
		}
		if goes {
			continue
		}
		if kinds(t, m) != strings.Repeat("1", 41) || m.store.Blocks() != 0 || m.head.Samples() != 41 {
			t.Error(kinds(t, m))
		}
		series := bitsOf(m.Series())
		did(t, m, crash())
		if shown(m) != was {
			t.Error("changed by a crash")
		}
		m.disk.Remove("z/0")
		m.disk.Remove("z/1")
		ticks(t, m, 0)
		if kinds(t, m) != "346" || m.store.Blocks() != 1 || bitsOf(m.Series()) != series || m.Files()[0] != "block.1" {
			t.Error(kinds(t, m), m.Files()[:4])
		}
	}
	// Without samples there is but the checkpoint's own file.
	for files, goes := range map[int]bool{256: false, 255: true} {
		m := New()
		for i := range 41 {
			says(t, m, quiet(`{a="1"}`, 0, 100), 200, fmt.Sprintf(`{"id":%d}`, i+1))
		}
		fill(t, m, files)
		if ticks(t, m, 0); slices.Contains(m.Files(), "data.check") != goes {
			t.Error(files, m.Files()[:4])
		}
	}
}

// A block that would be too long, and a checkpoint that would be: nothing is done.
func TestCheckpoint_TooLong(t *testing.T) {
	m := New()
	n := 0
	for range 5 {
		var b strings.Builder
		for b.Len() < 60000 {
			// A series of samples that can not be told in few bits has too long a frame.
			fmt.Fprintf(&b, "a %d.%d %d\n", n*7919%1000003, n*104729%999983, n*n%97+100*n)
			n++
		}
		wrote(t, m, b.String())
	}
	was := shown(m)
	if ticks(t, m, 0); shown(m) != was || m.log.Len() != n {
		t.Error("a block", m.Files())
	}
	// The alerts of the rules are too many for a record: it is refused, and so is the checkpoint, without which the block goes again.
	m = loaded(t, "receiver team\ngroup g every 1s\nalert \"A\" expr m\nroute receiver team\n")
	for i := range 2 {
		var b strings.Builder
		for k := range 150 {
			fmt.Fprintf(&b, "m{a=\"%s\",n=\"%d\"} 1\n", strings.Repeat("a", 250), 1000*i+k)
		}
		wrote(t, m, b.String())
	}
	before := kinds(t, m)
	ticks(t, m, 0)
	if len(m.Active()) != 300 || kinds(t, m) != before || !slices.Equal(m.Files(), []string{"data.00000001"}) || m.head.Samples() != 300 {
		t.Error(len(m.Active()), m.Files())
	}
	did(t, m, crash(all("data.00000001")))
	if len(m.Active()) != 0 || m.head.Samples() != 300 {
		t.Error(len(m.Active()))
	}
}

// What the log refuses: samples are told so one by one; silences and configurations stand, and are told so.
func TestLog_FullDisk(t *testing.T) {
	m := New()
	fill(t, m, 256)
	says(t, m, post("/api/write", "up 1\nup 2\n"), 409, `{"accepted":0,"refused":[[0,8],[1,8]]}`)
	says(t, m, quiet(`{a="1"}`, 0, 100), 503, `{"error":8}`)
	says(t, m, del("/api/silences?id=1"), 503, `{"error":8}`)
	says(t, m, del("/api/silences?id=1"), 409, `{"error":220}`)
	says(t, m, quiet(`{a="1"}`, 5, 100), 503, `{"error":8}`)
	says(t, m, post("/reload", "receiver team\ngroup g every 1s\nalert \"A\" expr vector(1)\nrecord x expr 1\nroute receiver team wait 0s\n"), 503, `{"error":8}`)
	if len(m.Series()) != 0 || len(m.Silences()) != 2 {
		t.Error(shown(m))
	}
	ticks(t, m, 3, "team /")
	if c, at := m.Config(); c.Receivers[0] != "team" || at != 0 || len(m.Marks()) != 1 || len(m.Series()) != 0 {
		t.Error(c, at)
	}
	// With room again, what the log has refused is not there behind a crash; what has changed since is.
	m.disk.Remove("z/0")
	says(t, m, del("/api/silences?id=2"), 200, `{"id":2}`)
	did(t, m, crash())
	if c, at := m.Config(); c.Receivers[0] != "default" || at != 0 || len(m.Marks()) != 0 {
		t.Error(c, at)
	}
	if got := fmt.Sprint(m.Silences()); got != "[{2 [{1 a 1}] 3 3}]" {
		t.Error(got)
	}
}

// A configuration whose record is too long for the log: it holds, and so it is told; the record of its alerts goes in all the same.
func TestLog_LongConfig(t *testing.T) {
	for size := 65531; size <= 65536; size++ {
		text := longConfig(size)
		c, e, _ := config.Parse(text)
		if printed, _, _ := config.Print(c); e != api.OK || len(printed) != size {
			t.Fatal(size, len(printed), e)
		}
		m := loaded(t, down)
		ticks(t, m, 0)
		if size == 65531 {
			reloaded(t, m, text)
			continue
		}
		says(t, m, post("/reload", text), 503, `{"error":4}`)
		if got, at := m.Config(); !config.Same(got, c) || at != 0 || kinds(t, m) != "3444" {
			t.Error(size, at, kinds(t, m))
		}
		// Its evaluations are those of other groups than the log has: behind a crash they play no part.
		wrote(t, m, "up 0\n")
		ticks(t, m, 1000)
		if len(m.Active()) == 0 {
			t.Error("not evaluated")
		}
		did(t, m, crash(all("data.00000001")))
		if got, at := m.Config(); got.Groups[0].Rules[0].Name != "Down" || at != 0 || len(m.Active()) != 0 || len(m.Series()) != 1 {
			t.Error(size, at, m.Active())
		}
		ticks(t, m, 10000)
		if len(m.Active()) != 1 {
			t.Error(m.Active())
		}
	}
}

// P29.1: behind a reload the log is synced, whichever of its records is refused: no crash takes what lies there by then.
func TestReload_SyncedThoughRefused(t *testing.T) {
	many := func(m *Machine) {
		for i := range 2 {
			var b strings.Builder
			for k := range 150 {
				fmt.Fprintf(&b, "m{a=\"%s\",n=\"%d\"} 1\n", strings.Repeat("a", 250), 1000*i+k)
			}
			wrote(t, m, b.String())
		}
	}
	const text = "receiver team\ngroup g every 1s\nalert \"A\" for 5s expr m > 0\nrecord x expr 1\nroute receiver team\n"
	for i, test := range []struct {
		ahead   func(m *Machine)
		text    func(m *Machine) string
		kinds   string // what the crash leaves in the log
		groups  int
		pending int
	}{
		// Neither record goes in: what the tick has recorded lasts.
		{func(m *Machine) { many(m); ticks(t, m, 1) }, longSame, "34" + strings.Repeat("1", 301), 1, 0},
		// The configuration's does not: that of the alerts lasts, too.
		{func(m *Machine) { wrote(t, m, "m 1\n"); ticks(t, m, 1) }, longSame, "341144", 1, 1},
		// That of the alerts does not: the configuration lasts.
		{func(m *Machine) { many(m); ticks(t, m, 1) }, func(*Machine) string { return text + "group h every 1s\nalert \"B\" expr nope\n" }, "34" + strings.Repeat("1", 301) + "3", 2, 0},
	} {
		m := loaded(t, text)
		test.ahead(m)
		says(t, m, post("/reload", test.text(m)), 503, `{"error":4}`)
		did(t, m, crash())
		if got := kinds(t, m); got != test.kinds {
			t.Error(i, got)
		}
		if c, _ := m.Config(); len(c.Groups) != test.groups || len(m.Active()) != test.pending {
			t.Error(i, len(c.Groups), m.Active())
		}
	}
}

// longSame answers the configuration of a machine with so many routes more that the log refuses its record.
func longSame(m *Machine) string {
	return longer(m, 65536)
}

// A configuration that the log takes, but not the alerts that it goes on with: that is told, and, where a crash keeps it, it begins without them.
func TestLog_LongAlerts(t *testing.T) {
	const text = "receiver team\ngroup g every 1s\nalert \"A\" expr m\nroute receiver team\n"
	m := loaded(t, text)
	for i := range 2 {
		var b strings.Builder
		for k := range 150 {
			fmt.Fprintf(&b, "m{a=\"%s\",n=\"%d\"} 1\n", strings.Repeat("a", 250), 1000*i+k)
		}
		wrote(t, m, b.String())
	}
	ticks(t, m, 0)
	says(t, m, post("/reload", text+"group h every 1s\nalert \"B\" expr nope\n"), 503, `{"error":4}`)
	if c, _ := m.Config(); len(c.Groups) != 2 || len(m.Active()) != 300 {
		t.Error(c, len(m.Active()))
	}
	did(t, m, crash(all("data.00000001")))
	if c, _ := m.Config(); len(c.Groups) != 2 || len(m.Active()) != 0 || len(m.Series()) != 300 {
		t.Error(c, len(m.Active()))
	}
	ticks(t, m, 0)
	if len(m.Active()) != 300 {
		t.Error(len(m.Active()))
	}
}

// P29.4: whatever a crash keeps of any file, all samples, silences and configurations whose requests were answered with 200 or 409 are there, and the machine stands as its model.
func TestP29_4(t *testing.T) {
	for seed := range int64(8) {
		var script []api.Entry
		r := newSource(4000 + seed)
		for m := New(); len(script) < 60; {
			if e := r.entry(m); e.Kind != api.ECrash {
				script = append(script, e)
				m.Step(e)
			}
		}
		for n := 0; n < 600; n = n*5/4 + 1 {
			b := both{t, New(), newModel()}
			for _, e := range script {
				b.m.Step(e)
				b.x.step(e)
			}
			checkAcknowledged(t, b.m, n)
			segment := fmt.Sprintf("data.%08d", b.x.segment)
			b.step(crash(api.Keep{Name: segment, N: n}, all("data.check"), all("block.1")))
			b.step(tick(b.m.Now() + 1000))
			b.step(query("up"))
		}
	}
}

// checkAcknowledged crashes another machine that has gone the same way: by their log it has what was told.
func checkAcknowledged(t *testing.T, m *Machine, n int) {
	t.Helper()
	twin := New()
	twin.disk = m.disk.Copy()
	if e := twin.disk.Crash(nil); e != api.OK {
		t.Fatal(e)
	}
	twin.boot()
	c, at := m.Config()
	if got, gotAt := twin.Config(); !config.Same(got, c) || at != gotAt {
		t.Fatal("the configuration is lost", n)
	}
	if fmt.Sprint(twin.Silences()) != fmt.Sprint(m.Silences()) {
		t.Fatal("silences are lost", n)
	}
}

// P29.4 of samples: those that were accepted are there, whatever was not synced.
func TestP29_4_Samples(t *testing.T) {
	m := loaded(t, "receiver team\ngroup g every 1s\nrecord x expr time()\nroute receiver team\n")
	accepted := map[string]bool{}
	for at := int64(0); at < 100000; at += 1000 {
		ticks(t, m, at)
		lines := fmt.Sprintf("up{n=\"%d\"} %d\nup{n=\"7\"} %d %d\n", at%5000, at, at, at-at%3000)
		did(t, m, post("/api/write", lines))
		accepted[fmt.Sprintf("up %d %d %d", at%5000, at, at)] = true
		ticks(t, m, at)
		if at%7000 == 0 {
			did(t, m, crash(api.Keep{Name: m.Files()[len(m.Files())-1], N: int(at % 40)}))
		}
		there := map[string]bool{}
		for _, s := range m.Series() {
			for _, x := range s.Samples {
				if s.Labels[0].Value == "up" {
					there[fmt.Sprintf("up %s %d %v", s.Labels[1].Value, x.T, x.V)] = true
				}
			}
		}
		for one := range accepted {
			if !there[one] {
				t.Fatalf("at %d: %s is lost", at, one)
			}
		}
	}
}
