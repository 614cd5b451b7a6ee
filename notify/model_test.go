package notify

import (
	"cmp"
	"encoding/json"
	"fmt"
	"math/rand"
	"slices"
	"strings"
	"testing"
	"unicode/utf8"

	"tocsin/api"
	"tocsin/inhibit"
	"tocsin/labels"
	"tocsin/nflog"
	"tocsin/silence"
)

const (
	maxTime = int64(1) << 50
	maxSpan = int64(1) << 40
)

// of answers the labels of names and values, as they stand.
func of(words ...string) []api.Label {
	var l []api.Label
	for i := 0; i < len(words); i += 2 {
		l = append(l, api.Label{Name: words[i], Value: words[i+1]})
	}
	return l
}

// many answers n labels, rising.
func many(n int) []api.Label {
	var l []api.Label
	for i := range n {
		l = append(l, api.Label{Name: fmt.Sprintf("l%03d", i), Value: "v"})
	}
	return l
}

// sets answers the label sets {a=value}, as they stand.
func sets(values ...string) [][]api.Label {
	var l [][]api.Label
	for _, v := range values {
		l = append(l, of("a", v))
	}
	return l
}

// wrongSets are lists that are no right label set.
func wrongSets() [][]api.Label {
	return [][]api.Label{many(17), of("1", "a"), of("", "a"), of("a:b", "1"), of(strings.Repeat("n", 65), "1"), of("a", ""), of("a", strings.Repeat("v", 257)), of("a", "\xff"), of("b", "1", "a", "1"), of("a", "1", "a", "1"), of("a", "1", "b", "")}
}

// noTimes are numbers that are no times.
func noTimes() []int64 {
	return []int64{-1, maxTime + 1, -1 << 63, 1<<63 - 1, -maxTime}
}

func noReceivers() []string {
	return []string{"", strings.Repeat("r", 65), "\xff", "a\x80", "\xed\xa0\x80", strings.Repeat("é", 33)}
}

func receivers() []string {
	return []string{"r", "team", strings.Repeat("r", 64), strings.Repeat("é", 32), "a\"b\\c\n\x00é"}
}

func noKeys() []string {
	return []string{"", strings.Repeat("k", 65537), "\xff", "0/\xc3"}
}

func keys() []string {
	return []string{"k", "0/{}", `0/{a="\"1"}`, strings.Repeat("k", 65536), "\x00\x1f\t\r\n€"}
}

func sameSets(a, b [][]api.Label) bool {
	return slices.EqualFunc(a, b, func(x, y []api.Label) bool { return slices.Equal(x, y) })
}

func copySets(l [][]api.Label) [][]api.Label {
	var out [][]api.Label
	for _, set := range l {
		out = append(out, slices.Clone(set))
	}
	return out
}

func copyNotice(n api.Notice) api.Notice {
	n.Firing, n.Resolved = copySets(n.Firing), copySets(n.Resolved)
	return n
}

func sameNotice(a, b api.Notice) bool {
	return a.At == b.At && a.Receiver == b.Receiver && a.Key == b.Key && a.Payload == b.Payload && sameSets(a.Firing, b.Firing) && sameSets(a.Resolved, b.Resolved)
}

func sameNotices(a, b []api.Notice) bool { return slices.EqualFunc(a, b, sameNotice) }

// isNone: is it the zero value, its lists nil?
func isNone(n api.Notice) bool {
	return n.At == 0 && n.Receiver == "" && n.Key == "" && n.Payload == "" && n.Firing == nil && n.Resolved == nil
}

// compareSets: the page's order of label sets.
func compareSets(a, b []api.Label) int {
	return slices.CompareFunc(a, b, func(x, y api.Label) int {
		return cmp.Or(strings.Compare(x.Name, y.Name), strings.Compare(x.Value, y.Value))
	})
}

func rightSet(l []api.Label) bool {
	e, _ := labels.Right(l)
	return e == api.OK
}

func isTime(t int64) bool { return t >= 0 && t <= maxTime }

func isText(s string, most int) bool {
	return len(s) >= 1 && len(s) <= most && utf8.ValidString(s)
}

// quoteModel: the words of chapter 28.
func quoteModel(s string) string {
	out := []byte{'"'}
	for _, c := range []byte(s) {
		switch {
		case c == '"' || c == '\\':
			out = append(out, '\\', c)
		case c == '\n':
			out = append(out, `\n`...)
		case c == '\r':
			out = append(out, `\r`...)
		case c == '\t':
			out = append(out, `\t`...)
		case c < 32:
			out = fmt.Appendf(out, `\u00%02x`, c)
		default:
			out = append(out, c)
		}
	}
	return string(append(out, '"'))
}

// payloadModel: the words of the chapter.
func payloadModel(n api.Notice) (string, api.Errno) {
	switch {
	case !isTime(n.At):
		return "", api.ErrArg
	case !isText(n.Receiver, 64):
		return "", api.ErrReceiver
	case !isText(n.Key, 65536):
		return "", api.ErrName
	}
	var alerts []string
	overall := "resolved"
	for status, l := range map[string][][]api.Label{"firing": n.Firing, "resolved": n.Resolved} {
		for _, set := range l {
			if !rightSet(set) {
				return "", api.ErrLabel
			}
			if status == "firing" {
				overall = status
			}
		}
	}
	put := func(status string, l [][]api.Label) {
		for _, set := range l {
			var members []string
			for _, one := range set {
				members = append(members, quoteModel(one.Name)+":"+quoteModel(one.Value))
			}
			alerts = append(alerts, fmt.Sprintf(`{"status":"%s","labels":{%s}}`, status, strings.Join(members, ",")))
		}
	}
	put("firing", n.Firing)
	put("resolved", n.Resolved)
	return fmt.Sprintf(`{"at":%d,"receiver":%s,"group":%s,"status":"%s","alerts":[%s]}`, n.At, quoteModel(n.Receiver), quoteModel(n.Key), overall, strings.Join(alerts, ",")), api.OK
}

// checkPayload holds Payload against its model, and against the library's reading.
func checkPayload(t *testing.T, n api.Notice) string {
	t.Helper()
	was := copyNotice(n)
	s, e := Payload(n)
	want, wantE := payloadModel(n)
	if s != want || e != wantE {
		t.Errorf("Payload: %.300q, %d; want %.300q, %d", s, e, want, wantE)
	}
	if !sameNotice(n, was) {
		t.Error("changed", n)
	}
	if e != api.OK {
		return s
	}
	var read struct {
		At                      int64
		Receiver, Group, Status string
		Alerts                  []struct {
			Status string
			Labels map[string]string
		}
	}
	if err := json.Unmarshal([]byte(s), &read); err != nil || read.At != n.At || read.Receiver != n.Receiver || read.Group != n.Key || len(read.Alerts) != len(n.Firing)+len(n.Resolved) {
		t.Errorf("%.300q: %v", s, err)
		return s
	}
	for i, set := range append(copySets(n.Firing), n.Resolved...) {
		for _, one := range set {
			if read.Alerts[i].Labels[one.Name] != one.Value {
				t.Errorf("%.300q: %v", s, one)
			}
		}
	}
	return s
}

// stage is what is staged, and by what it is held.
type stage struct {
	now    int64
	f      api.Flush
	r      api.Route
	firing [][]api.Label
	mute   *inhibit.Rules
	quiet  *silence.Store
	log    *nflog.Log
}

// newStage answers a stage at 100 of alerts, without anything that holds them.
func newStage(alerts ...api.Alert) *stage {
	mute, _, _ := inhibit.New(nil)
	return &stage{now: 100, f: api.Flush{Key: "0/{}", Alerts: alerts}, r: api.Route{Receiver: "team", Repeat: 50}, mute: mute, quiet: silence.New(), log: nflog.New()}
}

// fires answers an alert that fires at 100, over one that is resolved then.
func fires(words ...string) api.Alert { return api.Alert{Labels: of(words...), Start: 50, End: 150} }
func over(words ...string) api.Alert  { return api.Alert{Labels: of(words...), Start: 10, End: 90} }

// fault: the errors of the chapter, in their order.
func (x *stage) fault() api.Errno {
	switch {
	case x.mute == nil || x.quiet == nil || x.log == nil:
		return api.ErrNil
	case !isTime(x.now):
		return api.ErrArg
	case !isText(x.r.Receiver, 64):
		return api.ErrReceiver
	case !isText(x.f.Key, 65536):
		return api.ErrName
	case x.r.Repeat < 1 || x.r.Repeat > maxSpan:
		return api.ErrArg
	}
	for _, a := range x.f.Alerts {
		if !rightSet(a.Labels) {
			return api.ErrLabel
		}
	}
	for _, set := range x.firing {
		if !rightSet(set) {
			return api.ErrLabel
		}
	}
	if len(x.f.Alerts) > 500 {
		return api.ErrFull
	}
	for i, a := range x.f.Alerts {
		for _, b := range x.f.Alerts[:i] {
			if slices.Equal(a.Labels, b.Labels) {
				return api.ErrTwice
			}
		}
	}
	return api.OK
}

// model: the words of the chapter.
func (x *stage) model() (api.Notice, bool, api.Errno) {
	if e := x.fault(); e != api.OK {
		return api.Notice{}, false, e
	}
	n := api.Notice{At: x.now, Receiver: x.r.Receiver, Key: x.f.Key}
	for _, a := range x.f.Alerts {
		held := false
		for _, source := range x.firing {
			by, _, _ := x.mute.By(a.Labels, source)
			held = held || by != -1
		}
		ids, _ := x.quiet.Silent(x.now, a.Labels)
		if held || len(ids) > 0 {
			continue
		}
		if a.Start <= x.now && x.now < a.End {
			n.Firing = append(n.Firing, a.Labels)
		}
		if a.End <= x.now {
			n.Resolved = append(n.Resolved, a.Labels)
		}
	}
	slices.SortFunc(n.Firing, compareSets)
	slices.SortFunc(n.Resolved, compareSets)
	m, has := x.log.Find(n.Receiver, n.Key)
	must, e := nflog.Needs(m, has, x.now, x.r.Repeat, n.Firing, n.Resolved)
	if e != api.OK || !must {
		return api.Notice{}, false, e
	}
	n.Payload, e = payloadModel(n)
	return n, true, e
}

func (x *stage) copyOf() stage {
	y := *x
	y.f.Alerts = slices.Clone(x.f.Alerts)
	for i := range y.f.Alerts {
		y.f.Alerts[i].Labels = slices.Clone(y.f.Alerts[i].Labels)
	}
	y.firing = copySets(x.firing)
	return y
}

// ask holds Stage against its model: it changes nothing, and what it answers is new memory.
func (x *stage) ask(t *testing.T) (api.Notice, bool, api.Errno) {
	t.Helper()
	was := x.copyOf()
	var marks, silences [][]byte
	if x.log != nil && x.quiet != nil {
		marks, silences = x.log.Records(), x.quiet.Records()
	}
	n, told, e := Stage(x.now, x.f, x.r, x.firing, x.mute, x.quiet, x.log)
	want, wantTold, wantE := x.model()
	if !sameNotice(n, want) || told != wantTold || e != wantE || !told && !isNone(n) {
		t.Errorf("Stage: %.300q, %v, %d; want %.300q, %v, %d", fmt.Sprint(n), told, e, fmt.Sprint(want), wantTold, wantE)
	}
	again, _, _ := Stage(x.now, x.f, x.r, x.firing, x.mute, x.quiet, x.log)
	spoil(again.Firing)
	spoil(again.Resolved)
	now := x.copyOf()
	sameAlert := func(a, b api.Alert) bool {
		return slices.Equal(a.Labels, b.Labels) && a.Start == b.Start && a.End == b.End
	}
	if !slices.EqualFunc(now.f.Alerts, was.f.Alerts, sameAlert) || !sameSets(now.firing, was.firing) || !sameNotice(n, want) {
		t.Error("changed, or shared")
	}
	if x.log != nil && x.quiet != nil {
		same := func(a, b []byte) bool { return string(a) == string(b) }
		if !slices.EqualFunc(marks, x.log.Records(), same) || !slices.EqualFunc(silences, x.quiet.Records(), same) {
			t.Error("the log or the silences are changed")
		}
	}
	return n, told, e
}

// spoil writes into all of label sets, and behind them.
func spoil(l [][]api.Label) {
	for i := range l {
		for k := range l[i] {
			l[i][k] = api.Label{Name: "spoilt", Value: "x"}
		}
		_ = append(l[i], of("more", "x")...)
		l[i] = nil
	}
	_ = append(l, of("more", "x"))
}

// senderModel goes by the words of the chapter, over a list in no order.
type senderModel struct {
	all []waits
}

type waits struct {
	n     api.Notice
	tries int
	next  int64
}

func (m *senderModel) offer(now int64, n api.Notice) api.Errno {
	if !isTime(now) {
		return api.ErrArg
	}
	if _, e := payloadModel(n); e != api.OK {
		return e
	}
	for i, x := range m.all {
		if x.n.Receiver == n.Receiver && x.n.Key == n.Key {
			m.all[i] = waits{n: copyNotice(n), next: now}
			return api.OK
		}
	}
	if len(m.all) == 500 {
		return api.ErrFull
	}
	m.all = append(m.all, waits{n: copyNotice(n), next: now})
	return api.OK
}

func (m *senderModel) try(now int64, takes []string) ([]api.Notice, []api.Notice, api.Errno) {
	if !isTime(now) {
		return nil, nil, api.ErrArg
	}
	slices.SortFunc(m.all, func(a, b waits) int {
		return cmp.Or(cmp.Compare(a.next, b.next), strings.Compare(a.n.Receiver, b.n.Receiver), strings.Compare(a.n.Key, b.n.Key))
	})
	var taken, lost []api.Notice
	var stay []waits
	for _, x := range m.all {
		switch {
		case x.next > now:
			stay = append(stay, x)
		case slices.Contains(takes, x.n.Receiver):
			x.n.At = now
			x.n.Payload, _ = payloadModel(x.n)
			taken = append(taken, x.n)
		case x.tries == 4:
			lost = append(lost, x.n)
		default:
			x.next = now + []int64{1000, 2000, 4000, 8000}[x.tries]
			x.tries++
			stay = append(stay, x)
		}
	}
	m.all = stay
	return taken, lost, api.OK
}

func (m *senderModel) next() (int64, api.Errno) {
	if len(m.all) == 0 {
		return 0, api.ErrNone
	}
	return slices.MinFunc(m.all, func(a, b waits) int { return cmp.Compare(a.next, b.next) }).next, api.OK
}

// both is a sender and its model.
type both struct {
	t *testing.T
	s *Sender
	m *senderModel
}

func newBoth(t *testing.T) both { return both{t, New(), &senderModel{}} }

func (x both) tells() {
	x.t.Helper()
	if n := x.s.Len(); n != len(x.m.all) {
		x.t.Errorf("Len: %d; want %d", n, len(x.m.all))
	}
	n, e := x.s.Next()
	if want, wantE := x.m.next(); n != want || e != wantE {
		x.t.Errorf("Next: %d, %d; want %d, %d", n, e, want, wantE)
	}
}

func (x both) offer(now int64, n api.Notice) api.Errno {
	x.t.Helper()
	was := copyNotice(n)
	e := x.s.Offer(now, n)
	if want := x.m.offer(now, was); e != want {
		x.t.Errorf("Offer(%d, %.200q): %d; want %d", now, fmt.Sprint(n), e, want)
	}
	if !sameNotice(n, was) {
		x.t.Error("changed", n)
	}
	x.tells()
	return e
}

func (x both) try(now int64, takes ...string) ([]api.Notice, []api.Notice, api.Errno) {
	x.t.Helper()
	was := slices.Clone(takes)
	taken, lost, e := x.s.Try(now, takes)
	wantTaken, wantLost, wantE := x.m.try(now, takes)
	if !sameNotices(taken, wantTaken) || !sameNotices(lost, wantLost) || e != wantE {
		x.t.Errorf("Try(%d, %q): %.300q, %.300q, %d; want %.300q, %.300q, %d", now, takes, fmt.Sprint(taken), fmt.Sprint(lost), e, fmt.Sprint(wantTaken), fmt.Sprint(wantLost), wantE)
	}
	if !slices.Equal(takes, was) {
		x.t.Error("changed", takes)
	}
	x.tells()
	return taken, lost, e
}

func (x both) drop() {
	x.t.Helper()
	x.s.Drop()
	x.m.all = nil
	x.tells()
}

// notice answers a notification of {a="1"} that fires.
func notice(receiver, key string) api.Notice {
	return api.Notice{At: 7, Receiver: receiver, Key: key, Firing: sets("1"), Resolved: sets("2"), Payload: "of no matter"}
}

// source makes things up.
type source struct{ *rand.Rand }

func newSource(seed int64) source { return source{rand.New(rand.NewSource(seed))} }

func (r source) pick(l ...string) string { return l[r.Intn(len(l))] }

func (r source) set() []api.Label {
	var l []api.Label
	for _, name := range []string{"a", "b", "severity"} {
		if r.Intn(3) > 0 {
			l = append(l, api.Label{Name: name, Value: r.pick("1", "2", "\"\n")})
		}
	}
	return l
}

func (r source) sets(most int) [][]api.Label {
	var l [][]api.Label
	for range r.Intn(most + 1) {
		l = append(l, r.set())
	}
	return l
}

// matcher answers a matcher that does not match the empty value.
func (r source) matcher() []api.Matcher {
	return []api.Matcher{{Op: api.MEq, Name: r.pick("a", "b", "severity"), Value: r.pick("1", "2")}}
}

// stage answers what may be staged, now being about 100.
func (r source) stage() *stage {
	x := newStage()
	x.now = int64(80 + r.Intn(40))
	for range r.Intn(8) {
		set := r.set()
		if slices.ContainsFunc(x.f.Alerts, func(a api.Alert) bool { return slices.Equal(a.Labels, set) }) && r.Intn(20) > 0 {
			continue
		}
		start := int64(r.Intn(200))
		x.f.Alerts = append(x.f.Alerts, api.Alert{Labels: set, Start: start, End: start + int64(r.Intn(100)) - 5})
	}
	x.firing = r.sets(4)
	var rules []api.Inhibit
	for range r.Intn(3) {
		rules = append(rules, api.Inhibit{Source: r.matcher(), Target: r.matcher(), Equal: []string{"b"}[:r.Intn(2)]})
	}
	x.mute, _, _ = inhibit.New(rules)
	for range r.Intn(3) {
		x.quiet.Add(int64(r.Intn(120)), api.Silence{Matchers: r.matcher(), To: int64(r.Intn(200))})
	}
	for range r.Intn(3) {
		firing, _ := nflog.Sorted(r.sets(4)...)
		resolved, _ := nflog.Sorted(r.sets(4)...)
		x.log.Put(api.Mark{Receiver: r.pick("team", "other"), Key: r.pick("0/{}", "1/{}"), At: int64(r.Intn(120)), Firing: firing, Resolved: resolved})
	}
	return x
}
