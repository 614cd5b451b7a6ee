package mono

import (
	"cmp"
	"encoding/binary"
	"fmt"
	"maps"
	"math"
	"math/rand"
	"slices"
	"strings"
	"testing"

	"tocsin/alerts"
	"tocsin/api"
	"tocsin/config"
	"tocsin/dispatch"
	"tocsin/eval"
	"tocsin/expo"
	"tocsin/head"
	"tocsin/http"
	"tocsin/inhibit"
	"tocsin/labels"
	"tocsin/match"
	"tocsin/nflog"
	"tocsin/notify"
	"tocsin/rules"
	"tocsin/silence"
	"tocsin/store"
)

// entry is a record of the model's log: its bytes, and what it does behind a crash.
type entry struct {
	bytes string
	redo  func(x *model)
}

// frame: how many bytes the log has of it.
func (r entry) frame() int { return len(uvarint(len(r.bytes))) + 4 + len(r.bytes) }

// modelGroup is how far a group has come.
type modelGroup struct {
	last    int64
	keepers map[int]*rules.Keeper // by the numbers of the rules of alerts
}

// model goes by the words of the chapter: samples lie in one heap, whatever block they are in; the log is a list of what is done again behind a crash.
type model struct {
	now      int64
	cfg      api.Config
	loaded   int64
	groups   []modelGroup
	head     map[string]api.Series
	blocks   [][]api.Series
	set      *alerts.Set
	quiet    *silence.Store
	marks    *nflog.Log
	board    *dispatch.Board
	mute     *inhibit.Rules
	sender   *notify.Sender
	refusing map[string]bool
	log      []entry
	synced   int
	segment  int
	there    bool // is the segment's file there?
	requests int64
	notices  int64
}

func newModel() *model {
	x := &model{refusing: map[string]bool{}, segment: 1}
	x.boot()
	return x
}

func (x *model) boot() {
	x.head, x.blocks = map[string]api.Series{}, nil
	x.quiet, x.marks = silence.New(), nflog.New()
	x.begin(Default(), 0)
	for _, r := range x.log {
		r.redo(x)
	}
	x.empty()
}

func (x *model) begin(c api.Config, at int64) {
	x.cfg, x.loaded, x.groups = c, at, nil
	for _, g := range c.Groups {
		next := modelGroup{last: -1, keepers: map[int]*rules.Keeper{}}
		for i, r := range g.Rules {
			if !r.Record {
				next.keepers[i], _ = rules.New(r)
			}
		}
		x.groups = append(x.groups, next)
	}
}

func (x *model) empty() {
	x.set = alerts.New(x.cfg.Resolve, 500)
	x.board, _, _ = dispatch.New(x.cfg.Routes)
	x.mute, _, _ = inhibit.New(x.cfg.Inhibits)
	x.sender = notify.New()
}

// append lays records into the log, and tells the error of the first that it refuses.
func (x *model) append(l ...entry) api.Errno {
	first := api.OK
	for _, r := range l {
		if len(r.bytes) > 65536 {
			first = api.ErrSize
			continue
		}
		x.log = append(x.log, r)
		x.there = true
	}
	return first
}
func (x *model) sync() { x.synced = len(x.log) }

func uvarint(n int) string { return string(binary.AppendUvarint(nil, uint64(n))) }
func varint(n int64) string {
	return string(binary.AppendVarint(nil, n))
}
func textBytes(s string) string { return uvarint(len(s)) + s }
func setBytes(l []api.Label) string {
	s := uvarint(len(l))
	for _, one := range l {
		s += textBytes(one.Name) + textBytes(one.Value)
	}
	return s
}
func floatModel(v float64) string {
	return string(binary.LittleEndian.AppendUint64(nil, math.Float64bits(v)))
}

func (x *model) sampleEntry(l []api.Label, s api.Sample) entry {
	return entry{"\x01" + setBytes(l) + varint(s.T) + floatModel(s.V), func(x *model) {
		if x.check(l, s) == api.OK {
			x.lay(l, s)
		}
	}}
}

func (x *model) silenceEntry(s api.Silence) entry {
	b := varint(s.Id) + varint(s.From) + varint(s.To) + uvarint(len(s.Matchers))
	for _, m := range s.Matchers {
		b += uvarint(m.Op) + textBytes(m.Name) + textBytes(m.Value)
	}
	return entry{"\x02" + b, func(x *model) {
		all := slices.DeleteFunc(slices.Collect(x.quiet.All()), func(y api.Silence) bool { return y.Id == s.Id })
		var records [][]byte
		for _, y := range append(all, s) {
			r, _ := silence.Record(y)
			records = append(records, r)
		}
		x.quiet, _, _ = silence.Open(records)
	}}
}

func (x *model) configEntry() entry {
	text, _, _ := config.Print(x.cfg)
	at := x.loaded
	return entry{"\x03" + varint(at) + textBytes(text), func(x *model) {
		c, _, _ := config.Parse(text)
		x.begin(c, at)
	}}
}

func (x *model) activeEntry() entry {
	b, lasts := "\x04", []int64{}
	type kept struct {
		group, rule int
		active      []api.Active
		last        int64
	}
	var all []kept
	for _, g := range x.groups {
		b += varint(g.last)
		lasts = append(lasts, g.last)
	}
	for i, g := range x.groups {
		for _, k := range slices.Sorted(maps.Keys(g.keepers)) {
			one := kept{i, k, g.keepers[k].Active(), g.keepers[k].Last()}
			all = append(all, one)
			b += varint(one.last) + uvarint(len(one.active))
			for _, a := range one.active {
				b += setBytes(a.Labels) + uvarint(a.State) + varint(a.Since) + varint(a.Fired) + varint(a.Gone) + floatModel(a.V)
			}
		}
	}
	return entry{b, func(x *model) {
		for i, at := range lasts {
			x.groups[i].last = at
		}
		for _, one := range all {
			x.groups[one.group].keepers[one.rule], _ = rules.Restore(x.cfg.Groups[one.group].Rules[one.rule], one.active, one.last)
		}
	}}
}

func (x *model) markEntry(m api.Mark) entry {
	b := textBytes(m.Receiver) + textBytes(m.Key) + varint(m.At)
	for _, l := range [][][]api.Label{m.Firing, m.Resolved} {
		b += uvarint(len(l))
		for _, set := range l {
			b += setBytes(set)
		}
	}
	return entry{"\x05" + b, func(x *model) { x.marks.Put(m) }}
}

func (x *model) blocksEntry(blocks [][]api.Series) entry {
	b := "\x06" + uvarint(len(blocks))
	for i := range blocks {
		b += uvarint(i + 1)
	}
	return entry{b, func(x *model) { x.blocks = blocks }}
}

// check: the head's words.
func (x *model) check(l []api.Label, s api.Sample) api.Errno {
	if e, _ := labels.Right(l); e != api.OK || len(l) == 0 {
		return api.ErrLabel
	}
	if s.T < 0 || s.T > maxTime {
		return api.ErrArg
	}
	there, is := x.head[setBytes(l)]
	count := 0
	for _, one := range x.head {
		count += len(one.Samples)
	}
	switch {
	case is && s.T < there.Samples[len(there.Samples)-1].T:
		return api.ErrOld
	case is && s.T == there.Samples[len(there.Samples)-1].T:
		if math.Float64bits(s.V) != math.Float64bits(there.Samples[len(there.Samples)-1].V) {
			return api.ErrTwice
		}
	case !is && len(x.head) == 1000, count == 100000:
		return api.ErrFull
	}
	return api.OK
}

// lay lays down a sample that can be, and tells whether it was new.
func (x *model) lay(l []api.Label, s api.Sample) bool {
	one := x.head[setBytes(l)]
	if n := len(one.Samples); n > 0 && one.Samples[n-1].T == s.T {
		return false
	}
	x.head[setBytes(l)] = api.Series{Labels: slices.Clone(l), Samples: append(slices.Clone(one.Samples), s)}
	return true
}

func (x *model) put(l []api.Label, s api.Sample) api.Errno {
	if e := x.check(l, s); e != api.OK {
		return e
	}
	if x.lay(l, s) {
		x.append(x.sampleEntry(slices.Clone(l), s))
	}
	return api.OK
}

// inHead answers the head's series, rising.
func (x *model) inHead() []api.Series {
	return slices.SortedFunc(maps.Values(x.head), func(a, b api.Series) int { return compareSets(a.Labels, b.Labels) })
}

// compareSets: the page's order of label sets.
func compareSets(a, b []api.Label) int {
	return slices.CompareFunc(a, b, func(x, y api.Label) int {
		return cmp.Or(strings.Compare(x.Name, y.Name), strings.Compare(x.Value, y.Value))
	})
}

// series answers all samples, those of later blocks, and then of the head, in the place of earlier ones.
func (x *model) series() []api.Series {
	all := map[string]map[int64]float64{}
	sets := map[string][]api.Label{}
	for _, l := range append(slices.Clone(x.blocks), x.inHead()) {
		for _, s := range l {
			key := setBytes(s.Labels)
			if all[key] == nil {
				all[key], sets[key] = map[int64]float64{}, s.Labels
			}
			for _, one := range s.Samples {
				all[key][one.T] = one.V
			}
		}
	}
	var out []api.Series
	for key, at := range all {
		one := api.Series{Labels: sets[key]}
		for _, t := range slices.Sorted(maps.Keys(at)) {
			one.Samples = append(one.Samples, api.Sample{T: t, V: at[t]})
		}
		out = append(out, one)
	}
	slices.SortFunc(out, func(a, b api.Series) int { return compareSets(a.Labels, b.Labels) })
	return out
}

// store answers a store of one head that has all samples.
func (x *model) store() *store.Store {
	h := head.New(1000, 100000)
	for _, s := range x.series() {
		for _, one := range s.Samples {
			h.Append(s.Labels, one)
		}
	}
	return store.New(h)
}

// step: the words of 'A step'.
func (x *model) step(e api.Entry) ([]api.Out, api.Errno) {
	switch e.Kind {
	case api.ETick:
		if e.N < x.now || e.N > maxTime {
			return nil, api.ErrArg
		}
		return x.tick(e.N), api.OK
	case api.ERequest:
		code, body := x.serve(e.Text)
		if len(body) > 1<<20 {
			code, body = 500, `{"error":4}`
		}
		x.requests++
		b := fmt.Sprintf("HTTP/1.1 %d %s\r\nContent-Type: application/json\r\nContent-Length: %d\r\n\r\n%s", code, codeWords[code], len(body), body)
		return []api.Out{{Answer: b}}, api.OK
	case api.EAnswer:
		if len(e.Text) < 1 || len(e.Text) > 64 {
			return nil, api.ErrReceiver
		}
		if e.N != 0 && e.N != 1 {
			return nil, api.ErrArg
		}
		x.refusing[e.Text] = e.N == 0
		return nil, api.OK
	case api.ECrash:
		kept := 0
		for i, k := range e.Keeps {
			if k.N < 0 || slices.ContainsFunc(e.Keeps[:i], func(other api.Keep) bool { return other.Name == k.Name }) {
				return nil, api.ErrArg
			}
			if k.Name == fmt.Sprintf("data.%08d", x.segment) {
				kept = k.N
			}
		}
		x.crash(kept)
		return nil, api.OK
	}
	return nil, api.ErrOp
}

// crash leaves the records that are synced, and those whose frames are whole in so many bytes behind them.
func (x *model) crash(kept int) {
	stays := x.synced
	for _, r := range x.log[x.synced:] {
		kept -= r.frame()
		if kept < 0 {
			break
		}
		stays++
	}
	x.log = x.log[:stays]
	x.sync()
	x.boot()
}

var codeWords = map[int]string{200: "OK", 400: "Bad Request", 404: "Not Found", 405: "Method Not Allowed", 409: "Conflict", 422: "Unprocessable Entity", 500: "Internal Server Error", 503: "Service Unavailable"}

func (x *model) tick(now int64) []api.Out {
	x.now = now
	evaluated := false
	for i, g := range x.cfg.Groups {
		next := x.loaded
		for x.groups[i].last >= next {
			next += g.Every * max(1, (x.groups[i].last-next)/g.Every)
		}
		if x.groups[i].last == -1 {
			next = x.loaded
		}
		if next > now {
			continue
		}
		evaluated = true
		x.groups[i].last = now
		for k, r := range g.Rules {
			x.evaluate(r, x.groups[i].keepers[k])
		}
	}
	x.set.Sweep(now, 900000)
	flushes, _ := x.board.Due(now)
	for _, f := range flushes {
		var firing [][]api.Label
		for _, a := range x.set.Firing(now) {
			firing = append(firing, a.Labels)
		}
		if n, is, _ := notify.Stage(now, f, x.cfg.Routes[f.Route], firing, x.mute, x.quiet, x.marks); is {
			x.sender.Offer(now, n)
		}
	}
	var takes []string
	for _, name := range x.cfg.Receivers {
		if !x.refusing[name] {
			takes = append(takes, name)
		}
	}
	var out []api.Out
	taken, _, _ := x.sender.Try(now, takes)
	for _, n := range taken {
		out = append(out, api.Out{Notice: n})
		x.notices++
		if x.marks.Put(notify.Mark(n)) == api.OK {
			x.append(x.markEntry(notify.Mark(n)))
		}
	}
	if evaluated {
		x.append(x.activeEntry())
	}
	if len(taken) > 0 {
		x.sync()
	}
	if len(x.log) > 40 {
		x.checkpoint()
	}
	return out
}

func (x *model) evaluate(r api.Rule, k *rules.Keeper) {
	v, e, _ := eval.Query(x.store(), r.Expr, x.now, x.cfg.Lookback)
	if e != api.OK {
		return
	}
	points := v.Points
	if v.Kind == api.VScalar {
		points = []api.Point{{V: v.V}}
	}
	if r.Record {
		recorded, _ := rules.Record(r, points)
		for _, p := range recorded {
			x.put(p.Labels, api.Sample{T: x.now, V: p.V})
		}
		return
	}
	active, resolved, _ := k.Step(x.now, points)
	var come []api.Alert
	for _, a := range active {
		if a.State == api.SFiring {
			come = append(come, api.Alert{Labels: a.Labels, Start: a.Fired})
		}
	}
	for _, l := range resolved {
		come = append(come, api.Alert{Labels: l, Start: x.now, End: x.now})
	}
	for _, a := range come {
		if x.set.Put(x.now, a) == api.OK {
			as, _ := x.set.Get(a.Labels)
			x.board.Put(x.now, as)
		}
	}
}

func (x *model) checkpoint() {
	blocks := x.blocks
	if len(x.head) > 0 {
		blocks = append(slices.Clone(blocks), x.inHead())
	}
	l := []entry{x.configEntry()}
	for s := range x.quiet.All() {
		l = append(l, x.silenceEntry(s))
	}
	l = append(l, x.activeEntry())
	for m := range x.marks.All() {
		l = append(l, x.markEntry(m))
	}
	l = append(l, x.blocksEntry(blocks))
	content := uvarint(x.segment+1) + uvarint(len(l))
	for _, r := range l {
		if len(r.bytes) > 65536 {
			return
		}
		content += textBytes(r.bytes)
	}
	if len(content) > 65536 {
		return
	}
	x.head, x.blocks, x.log = map[string]api.Series{}, blocks, l
	x.sync()
	x.segment++
	x.there = false
}

// files: the checkpoint, the segment from its first record on, and the blocks, rising byte by byte.
func (x *model) files() []string {
	var out []string
	if x.segment > 1 {
		out = append(out, "data.check")
	}
	if x.there {
		out = append(out, fmt.Sprintf("data.%08d", x.segment))
	}
	for i := range x.blocks {
		out = append(out, fmt.Sprintf("block.%d", i+1))
	}
	slices.Sort(out)
	return out
}

func errorBody(e api.Errno, at ...int) string {
	if len(at) > 0 {
		return fmt.Sprintf(`{"error":%d,"at":%d}`, e, at[0])
	}
	return fmt.Sprintf(`{"error":%d}`, e)
}

// jsonText: the words of chapter 28.
func jsonText(s string) string {
	out := []byte{'"'}
	for _, c := range []byte(s) {
		switch {
		case c == '"' || c == '\\':
			out = append(out, '\\', c)
		case c == '\n':
			out = append(out, `\n`...)
		case c == '\r':
			out = append(out, `\r`...)
		case c == '\t':
			out = append(out, `\t`...)
		case c < 32:
			out = fmt.Appendf(out, `\u00%02x`, c)
		default:
			out = append(out, c)
		}
	}
	return string(append(out, '"'))
}

// serve: the table of 'Requests'.
func (x *model) serve(text string) (int, string) {
	r, e, at := http.Parse([]byte(text))
	if e != api.OK {
		return 400, errorBody(e, at)
	}
	known := map[string]string{"/api/write": "POST", "/api/query": "GET", "/api/alerts": "GET", "/api/silences": "POST DELETE GET", "/reload": "POST", "/status": "GET"}
	methods, is := known[r.Path]
	switch {
	case !is:
		return 404, errorBody(api.ErrNone)
	case !slices.Contains(strings.Fields(methods), r.Method):
		return 405, errorBody(api.ErrOp)
	}
	switch r.Method + " " + r.Path {
	case "POST /api/write":
		return x.write(r.Body)
	case "GET /api/query":
		return x.query(r)
	case "GET /api/alerts":
		var all []string
		for _, a := range x.active() {
			text, _ := labels.Print(a.Labels)
			all = append(all, fmt.Sprintf(`{"labels":%s,"state":"%s","since":%d}`, jsonText(text), []string{"", "pending", "firing"}[a.State], a.Since))
		}
		return 200, `{"alerts":[` + strings.Join(all, ",") + `]}`
	case "POST /api/silences":
		return x.addSilence(r.Body)
	case "DELETE /api/silences":
		return x.endSilence(r)
	case "GET /api/silences":
		var all []string
		for s := range x.quiet.All() {
			text, _, _ := match.Print(s.Matchers)
			all = append(all, fmt.Sprintf(`{"id":%d,"matchers":%s,"from":%d,"to":%d}`, s.Id, jsonText(text), s.From, s.To))
		}
		return 200, `{"silences":[` + strings.Join(all, ",") + `]}`
	case "POST /reload":
		return x.reload(r.Body)
	}
	samples := 0
	for _, s := range x.head {
		samples += len(s.Samples)
	}
	return 200, fmt.Sprintf(`{"now":%d,"series":%d,"samples":%d,"blocks":%d,"silences":%d,"requests":%d,"notices":%d}`, x.now, len(x.head), samples, len(x.blocks), x.quiet.Len(), x.requests, x.notices)
}

func (x *model) active() []api.Active {
	var out []api.Active
	for _, g := range x.groups {
		for _, i := range slices.Sorted(maps.Keys(g.keepers)) {
			out = append(out, g.keepers[i].Active()...)
		}
	}
	return out
}

func (x *model) write(body string) (int, string) {
	samples, _, e, at := expo.Parse(body)
	if e != api.OK {
		return 400, errorBody(e, at)
	}
	var faults []string
	for i, s := range samples {
		if s.T == -1 {
			s.T = x.now
		}
		if e := x.put(s.Labels, api.Sample{T: s.T, V: s.V}); e != api.OK {
			faults = append(faults, fmt.Sprintf("[%d,%d]", i, e))
		}
	}
	x.sync()
	code := 200
	if len(faults) > 0 {
		code = 409
	}
	return code, fmt.Sprintf(`{"accepted":%d,"refused":[%s]}`, len(samples)-len(faults), strings.Join(faults, ","))
}

// queryNumber: decimal digits, at most 16.
func queryNumber(s string) (int64, bool) {
	n := int64(0)
	for _, c := range []byte(s) {
		if c < '0' || c > '9' {
			return 0, false
		}
		n = 10*n + int64(c-'0')
	}
	return n, len(s) >= 1 && len(s) <= 16
}

func (x *model) query(r http.Request) (int, string) {
	expr, is := r.Get("query")
	if !is {
		return 400, errorBody(api.ErrWords)
	}
	at := x.now
	if s, is := r.Get("time"); is {
		n, ok := queryNumber(s)
		if !ok {
			return 400, errorBody(api.ErrArg)
		}
		at = n
	}
	v, e, place := eval.Query(x.store(), expr, at, x.cfg.Lookback)
	if e != api.OK {
		return 422, errorBody(e, place)
	}
	text, e := eval.Show(v)
	if e != api.OK {
		return 422, errorBody(e)
	}
	return 200, fmt.Sprintf(`{"type":"%s","text":%s}`, []string{"", "scalar", "string", "vector", "matrix"}[v.Kind], jsonText(text))
}

func (x *model) addSilence(body string) (int, string) {
	j, e, at := http.ReadJson(body)
	if e != api.OK {
		return 400, errorBody(e, at)
	}
	matchers, is := http.Member(j, "matchers")
	if !is || matchers.Kind != api.JText {
		return 400, errorBody(api.ErrJson)
	}
	var numbers []int64
	for _, name := range []string{"from", "to"} {
		n, is := http.Member(j, name)
		if !is || n.Kind != api.JNumber || n.Num < 0 || n.Num > 1<<51 || n.Num != math.Floor(n.Num) {
			return 400, errorBody(api.ErrJson)
		}
		numbers = append(numbers, int64(n.Num))
	}
	l, e, at := match.Parse(matchers.Text)
	if e != api.OK {
		return 400, errorBody(e, at)
	}
	id, e := x.quiet.Add(x.now, api.Silence{Matchers: l, From: numbers[0], To: numbers[1]})
	if e != api.OK {
		return 422, errorBody(e)
	}
	return x.hushed(id)
}

func (x *model) hushed(id int64) (int, string) {
	s, _ := x.quiet.Get(id)
	e := x.append(x.silenceEntry(s))
	x.sync()
	if e != api.OK {
		return 503, errorBody(e)
	}
	return 200, fmt.Sprintf(`{"id":%d}`, id)
}

func (x *model) endSilence(r http.Request) (int, string) {
	s, is := r.Get("id")
	if !is {
		return 400, errorBody(api.ErrWords)
	}
	id, ok := queryNumber(s)
	if !ok {
		return 400, errorBody(api.ErrArg)
	}
	e := x.quiet.Expire(x.now, id)
	if e != api.OK {
		return map[api.Errno]int{api.ErrNone: 404, api.ErrState: 409}[e], errorBody(e)
	}
	return x.hushed(id)
}

func (x *model) reload(body string) (int, string) {
	c, e, at := config.Parse(body)
	if e != api.OK {
		return 400, errorBody(e, at)
	}
	if _, e, _ := config.Print(c); e != api.OK {
		return 422, errorBody(e)
	}
	old, groups := x.cfg, x.groups
	x.begin(c, x.now)
	for i := range c.Groups {
		for k := range old.Groups {
			if config.Same(api.Config{Groups: c.Groups[i : i+1]}, api.Config{Groups: old.Groups[k : k+1]}) {
				x.groups[i] = groups[k]
			}
		}
	}
	x.empty()
	e = x.append(x.configEntry(), x.activeEntry())
	x.sync()
	if e != api.OK {
		return 503, errorBody(e)
	}
	return 200, fmt.Sprintf(`{"groups":%d,"routes":%d}`, len(c.Groups), len(c.Routes))
}

// both is a machine and its model.
type both struct {
	t *testing.T
	m *Machine
	x *model
}

func newBoth(t *testing.T) both { return both{t, New(), newModel()} }

func sameOut(a, b api.Out) bool {
	return fmt.Sprintf("%+v", a) == fmt.Sprintf("%+v", b)
}

// step takes a step of both, and holds all that they tell against one another.
func (b both) step(e api.Entry) []api.Out {
	b.t.Helper()
	was := slices.Clone(e.Keeps)
	out, got := b.m.Step(e)
	wantOut, want := b.x.step(e)
	if got != want || !slices.EqualFunc(out, wantOut, sameOut) {
		b.t.Fatalf("%.300q: %.2000s, %d; want %.2000s, %d", fmt.Sprint(e), fmt.Sprint(out), got, fmt.Sprint(wantOut), want)
	}
	if !slices.Equal(e.Keeps, was) {
		b.t.Fatal("changed", e)
	}
	b.same(e)
	return out
}

// same holds what a machine tells of itself, and its log, against the model.
func (b both) same(e api.Entry) {
	b.t.Helper()
	hold := func(what string, got, want any) {
		b.t.Helper()
		if g, w := fmt.Sprintf("%+v", got), fmt.Sprintf("%+v", want); g != w {
			b.t.Fatalf("%.300q: %s: %.2000s; want %.2000s", fmt.Sprint(e), what, g, w)
		}
	}
	m, x := b.m, b.x
	hold("Now", m.Now(), x.now)
	c, at := m.Config()
	hold("Config", at, x.loaded)
	if !config.Same(c, x.cfg) {
		hold("Config", c, x.cfg)
	}
	hold("Series", bitsOf(m.Series()), bitsOf(x.series()))
	hold("Active", m.Active(), x.active())
	hold("Alerts", m.Alerts(), slices.Collect(x.set.All()))
	hold("Silences", m.Silences(), slices.Collect(x.quiet.All()))
	hold("Marks", m.Marks(), slices.Collect(x.marks.All()))
	hold("Files", m.Files(), x.files())
	requests, notices := m.Counts()
	hold("Counts", []int64{requests, notices}, []int64{x.requests, x.notices})
	records := logged(b.t, m)
	if !slices.EqualFunc(records, x.log, func(r string, want entry) bool { return r == want.bytes }) {
		var want []string
		for _, r := range x.log {
			want = append(want, r.bytes)
		}
		b.t.Fatalf("%.300q: the log: %q; want %q", fmt.Sprint(e), records, want)
	}
	waiting := 0
	for _, r := range x.log[x.synced:] {
		waiting += r.frame()
	}
	have, synced, _ := m.disk.Size(fmt.Sprintf("data.%08d", x.segment))
	hold("not synced", have-synced, waiting)
}

// bitsOf tells series by the bits of their floats.
func bitsOf(l []api.Series) string {
	var s strings.Builder
	for _, one := range l {
		fmt.Fprint(&s, one.Labels)
		for _, x := range one.Samples {
			fmt.Fprintf(&s, " %d:%x", x.T, math.Float64bits(x.V))
		}
		s.WriteByte('\n')
	}
	return s.String()
}

// source makes things up.
type source struct{ *rand.Rand }

func newSource(seed int64) source { return source{rand.New(rand.NewSource(seed))} }

func (r source) pick(l ...string) string { return l[r.Intn(len(l))] }

func (r source) matchers() string {
	return r.pick(`{severity="critical"}`, `{severity="warning"}`, `{job="a"}`, `{job=~"a|b"}`, `{alertname!="Slow"}`, `{alertname=~".+",job!="b"}`)
}

func (r source) rule() string {
	exprs := []string{`up == 0`, `up{job="a"} == 0`, `sum by (job) (up) < 2`, `absent(up)`, `time() % 7000 - 1`, `rate(up[20s]) > 0`, `load > 1`, `job:up:sum == 0`, `up / on() up`, `up or load`, `-load`, `1`}
	switch r.Intn(5) {
	case 0:
		return "record " + r.pick("job:up:sum", "load", "x") + " " + r.pick("", `labels {severity="warning"} `) + "expr " + r.pick("sum by (job) (up)", "up or load", "count(up)", `{__name__=~"up|load"}`, "time()", "0/0")
	case 1:
		return `alert "Slow" for ` + r.pick("3s", "10s", "1ms") + r.pick("", " keep 5s") + r.pick("", ` labels {severity="warning"}`) + " expr " + r.pick(exprs...)
	}
	return `alert "` + r.pick("Down", "Odd é\\\"") + `" ` + r.pick("", "for 5s ") + r.pick("", "keep 20s ") + r.pick("", `labels {severity="critical"} `, `labels {severity="warning"} `) + "expr " + r.pick(exprs...)
}

func (r source) config() string {
	var b strings.Builder
	fmt.Fprintf(&b, "%sreceiver team\nreceiver pager\nreceiver web\n", r.pick("", "resolve 10s\n", "lookback 30s\n"))
	for i := range r.Intn(4) {
		fmt.Fprintf(&b, "group g%d every %s\n", i, r.pick("1s", "5s", "7s", "1m"))
		for range r.Intn(4) {
			b.WriteString(r.rule() + "\n")
		}
	}
	fmt.Fprintf(&b, "route receiver team%s wait %s interval %s repeat %s\n", r.pick("", " by job", " by *", " by job, severity"), r.pick("0s", "1s", "5s"), r.pick("1s", "10s"), r.pick("20s", "1m", "4h"))
	for range r.Intn(3) {
		fmt.Fprintf(&b, "route parent 0 receiver %s match %s%s%s\n", r.pick("pager", "web", "team"), r.matchers(), r.pick("", " by job", " by *"), r.pick("", " continue"))
	}
	for range r.Intn(2) {
		fmt.Fprintf(&b, "inhibit source {severity=\"critical\"} target {severity=\"warning\"}%s\n", r.pick("", " equal job"))
	}
	return b.String()
}

// longer answers the configuration that a machine has with more routes, so that config.Print tells it with so many bytes. The groups stay: the alerts of the rules are right ones for the configuration of the log, too, if it refuses this one.
func longer(m *Machine, size int) string {
	c, _ := m.Config()
	left := func() int {
		text, _, _ := config.Print(c)
		return size - len(text)
	}
	add := func(matchers int) {
		more := slices.Repeat([]api.Matcher{{Op: api.MEq, Name: "n"}}, matchers)
		c.Routes = append(c.Routes, api.Route{Receiver: c.Receivers[0], Matchers: more, Interval: 1000, Repeat: 60000})
		rest := left()
		for i := range more {
			n := min(250, rest)
			more[i].Value = strings.Repeat("x", n)
			rest -= n
		}
	}
	for left() > 6000 {
		add(16)
	}
	for left() > 500 {
		add(1)
	}
	if left() > 100 {
		add(2)
	}
	text, _, _ := config.Print(c)
	return text
}

func (r source) samples(now int64) string {
	var b strings.Builder
	for range r.Intn(5) {
		fmt.Fprintf(&b, "%s{job=%q%s} %s%s\n", r.pick("up", "up", "load"), r.pick("a", "b"), r.pick("", "", `,severity="critical"`, `,n="1"`), r.pick("0", "0", "1", "1", "2", "NaN", "+Inf", "-0"), r.pick("", "", "", fmt.Sprintf(" %d", max(0, now-int64(r.Intn(30000)))), fmt.Sprintf(" %d", now+int64(r.Intn(9000)))))
	}
	return b.String()
}

// entry answers an entry of any kind; most of them can be.
func (r source) entry(m *Machine) api.Entry {
	now := m.Now()
	switch n := r.Intn(100); {
	case n < 28:
		return post("/api/write", r.samples(now))
	case n < 62:
		return tick(now + []int64{0, 1, 500, 1000, 1000, 3000, 5000, 10000, 20000, 400000}[r.Intn(10)])
	case n < 67:
		return quiet(r.matchers(), now+int64(r.Intn(20000))-10000+10000*int64(r.Intn(2)), now+int64(r.Intn(40000))-3000)
	case n < 70:
		return del(fmt.Sprintf("/api/silences?id=%d", r.Intn(6)))
	case n < 73:
		if r.Intn(4) == 0 {
			return post("/reload", longer(m, 65521+r.Intn(16)))
		}
		return post("/reload", r.config())
	case n < 80:
		return query(r.pick("up", "up == 0", "{job=\"a\"}[1m]", "up+", "\"a\\n\"", "time()", "load / on() up", "foo(1)", "job:up:sum"))
	case n < 86:
		return get(r.pick("/api/alerts", "/api/silences", "/status", "/nope", "/api/query?query=up&time="+fmt.Sprint(now-5000), "/api/query?time=1"))
	case n < 88:
		return api.Entry{Kind: api.ERequest, Text: r.pick("", "GET", "GET /status HTTP/1.0\r\n\r\n", request("PUT", "/status", ""), request("POST", "/api/write", "up{ 1\n"), request("POST", "/reload", "receiver\n"), request("POST", "/api/silences", "{}"))}
	case n < 93:
		return api.Entry{Kind: api.EAnswer, Text: r.pick("team", "team", "pager", "default", ""), N: int64(r.Intn(9)+3) / 5}
	case n < 97:
		var keeps []api.Keep
		for _, name := range m.Files() {
			have, synced, _ := m.disk.Size(name)
			if r.Intn(3) > 0 {
				keeps = append(keeps, api.Keep{Name: name, N: r.Intn(have - synced + 2)})
			}
		}
		return crash(keeps...)
	}
	return []api.Entry{tick(now - 1), {Kind: r.Intn(9)}, crash(api.Keep{Name: "data.00000001", N: -1}), {Kind: api.EAnswer, Text: "team", N: 2}, tick(maxTime + 1)}[r.Intn(5)]
}

// P29.3, P2: whatever the script, the machine tells what the words say, step by step, and its log is what they say to the last byte.
func TestModel(t *testing.T) {
	for seed := range int64(100) {
		r := newSource(seed)
		b := newBoth(t)
		if seed%2 == 0 {
			b.step(post("/reload", r.config()))
		}
		for range 120 {
			b.step(r.entry(b.m))
		}
	}
}

func FuzzMono(f *testing.F) {
	for i, text := range []string{"", "up 1\nup{a=\"b\"} 2 7\n", "receiver x\ngroup g every 1s\nalert \"A\" for 1s expr up\nroute receiver x wait 0s\n", `{"matchers":"{a=\"1\"}","from":0,"to":9}`, "sum by (a) (up) > 1", request("GET", "/status", ""), "team", "\xff"} {
		f.Add(int64(i), text)
	}
	f.Fuzz(func(t *testing.T, seed int64, text string) {
		if len(text) > 2000 {
			return
		}
		r := newSource(seed)
		b := newBoth(t)
		for range 60 {
			e := r.entry(b.m)
			switch r.Intn(20) {
			case 0:
				e = post("/api/write", text)
			case 1:
				e = post("/reload", text)
			case 2:
				e = post("/api/silences", text)
			case 3:
				e = query(text)
			case 4:
				e = api.Entry{Kind: api.ERequest, Text: text}
			case 5:
				e = api.Entry{Kind: api.EAnswer, Text: text, N: int64(r.Intn(2))}
			case 6:
				e = crash(api.Keep{Name: text, N: r.Intn(9)}, api.Keep{Name: "data.00000001", N: r.Intn(99)})
			}
			b.step(e)
		}
	})
}
