package notify

import (
	"encoding/binary"
	"fmt"
	"slices"
	"strings"
	"sync"
	"sync/atomic"
	"testing"

	"tocsin/api"
)

func TestExamples_Sender(t *testing.T) {
	x := newBoth(t)
	x.offer(0, notice("team", "k"))
	for _, c := range []struct {
		now   int64
		tries int
	}{{0, 1}, {1000, 2}, {2999, 2}, {3000, 3}} {
		if taken, lost, e := x.try(c.now); len(taken)+len(lost) != 0 || e != api.OK {
			t.Error(c, taken, lost, e)
		}
		if got := x.s.list.all[0].tries; got != c.tries {
			t.Error(c, got)
		}
	}
	if n, e := x.s.Next(); n != 7000 || e != api.OK {
		t.Error(n, e)
	}
}

func TestNilSender(t *testing.T) {
	var s *Sender
	for _, now := range append(noTimes(), 0, 5) {
		for _, n := range []api.Notice{notice("team", "k"), {}} {
			if e := s.Offer(now, n); e != api.ErrNil {
				t.Error(e)
			}
		}
		for _, takes := range [][]string{nil, {"team"}} {
			if taken, lost, e := s.Try(now, takes); taken != nil || lost != nil || e != api.ErrNil {
				t.Error(taken, lost, e)
			}
		}
	}
	if n, e := s.Next(); n != 0 || e != api.ErrNil {
		t.Error(n, e)
	}
	s.Drop()
	if s.Len() != 0 {
		t.Error(s.Len())
	}
}

// TestP1_ZeroSender: a sender that nobody made is one for which nothing waits.
func TestP1_ZeroSender(t *testing.T) {
	var s Sender
	x := both{t, &s, &senderModel{}}
	x.tells()
	x.drop()
	x.try(5, "team")
	x.offer(5, notice("team", "k"))
	x.try(5, "team")
}

func TestP27_3_New(t *testing.T) {
	x := newBoth(t)
	x.tells()
	if taken, lost, e := x.try(maxTime, "team", ""); taken != nil || lost != nil || e != api.OK {
		t.Error(taken, lost, e)
	}
}

func TestP27_3_OfferRefused(t *testing.T) {
	x := newBoth(t)
	for range 2 { // of a sender for which none waits, and of one for which some do
		for _, now := range noTimes() {
			if e := x.offer(now, notice("team", "k")); e != api.ErrArg {
				t.Error(now, e)
			}
			for _, n := range wrongNotices() {
				if e := x.offer(now, n); e != api.ErrArg {
					t.Error(now, e)
				}
			}
		}
		for _, n := range wrongNotices() {
			_, want := payloadModel(n)
			if e := x.offer(5, n); e != want || e == api.OK {
				t.Error(e, want)
			}
		}
		x.offer(3, notice("team", "k"))
		x.try(3)
		x.offer(9, notice("other", "k"))
	}
	// What was refused is not there.
	if taken, _, _ := x.try(maxTime, "team", "other"); len(taken) != 2 {
		t.Error(taken)
	}
}

func TestP27_3_Offer(t *testing.T) {
	for _, now := range []int64{0, 1, 5000, maxTime} {
		x := newBoth(t)
		if e := x.offer(now, notice("team", "k")); e != api.OK {
			t.Error(now, e)
		}
		if n, e := x.s.Next(); n != now || e != api.OK {
			t.Error(n, e)
		}
		x.try(now, "team")
	}
	for _, receiver := range receivers() {
		x := newBoth(t)
		for _, key := range keys() {
			x.offer(5, notice(receiver, key))
		}
		x.try(5, receiver)
	}
	// In the place of one with its receiver and key that was tried already: it is as new.
	x := newBoth(t)
	first, second := notice("team", "k"), notice("team", "k")
	second.Firing, second.Resolved, second.At = sets("9"), nil, 42
	x.offer(0, first)
	x.try(0)
	x.try(1000)
	x.try(3000)
	x.offer(3500, second)
	if x.s.Len() != 1 {
		t.Error(x.s.Len())
	}
	for _, now := range []int64{3500, 4500, 6500, 10500} {
		if _, lost, _ := x.try(now); len(lost) != 0 {
			t.Error(now, lost)
		}
	}
	if _, lost, _ := x.try(18500); len(lost) != 1 || !sameNotice(lost[0], second) {
		t.Error(lost)
	}
	// One that is offered at an earlier time is tried from then on.
	x.offer(500, first)
	x.offer(100, second)
	if taken, _, _ := x.try(100, "team"); len(taken) != 1 {
		t.Error(taken)
	}
	// The same key of another receiver, and the other way round, are others.
	for _, n := range []api.Notice{notice("a", "k"), notice("b", "k"), notice("a", "l"), notice("ak", "l"), notice("a", "kl")} {
		x.offer(5, n)
	}
	if x.s.Len() != 5 {
		t.Error(x.s.Len())
	}
	x.try(5, "a")
}

func TestP27_3_Full(t *testing.T) {
	x := newBoth(t)
	for i := range 500 {
		if e := x.offer(int64(i%7), notice(fmt.Sprint("r", i%9), fmt.Sprint("k", i))); e != api.OK {
			t.Fatal(i, e)
		}
	}
	for range 2 {
		if e := x.offer(5, notice("r0", "new")); e != api.ErrFull {
			t.Error(e)
		}
		if e := x.offer(5, api.Notice{}); e != api.ErrReceiver {
			t.Error(e)
		}
	}
	// In the place of one there is room.
	if e := x.offer(5, notice("r4", "k4")); e != api.OK || x.s.Len() != 500 {
		t.Error(e, x.s.Len())
	}
	x.try(5, "r3")
	if e := x.offer(5, notice("r0", "new")); e != api.OK {
		t.Error(e)
	}
	for now := int64(5); now < 40000; now += 500 {
		x.try(now, "r5")
	}
	if x.s.Len() != 0 {
		t.Error(x.s.Len())
	}
}

func TestP27_4_TryRefused(t *testing.T) {
	x := newBoth(t)
	x.offer(0, notice("team", "k"))
	for _, now := range noTimes() {
		if taken, lost, e := x.try(now, "team"); taken != nil || lost != nil || e != api.ErrArg {
			t.Error(now, taken, lost, e)
		}
	}
	if x.s.Len() != 1 {
		t.Error(x.s.Len())
	}
}

func TestP27_4_Tries(t *testing.T) {
	// How long behind each other's time they are asked: at it, and late by more than one step.
	for _, late := range []int64{0, 1, 999, 5000, 20000} {
		for takesAt := 1; takesAt <= 6; takesAt++ {
			x := newBoth(t)
			n := notice("team", "k")
			x.offer(100, n)
			for try := 1; try <= 5; try++ {
				next, _ := x.s.Next()
				if taken, lost, _ := x.try(next-1, "team"); len(taken)+len(lost) != 0 {
					t.Error("too early", try, taken, lost)
				}
				now := next + late
				var takes []string
				if try == takesAt {
					takes = []string{"x", "team", "y", "team"}
				}
				taken, lost, e := x.try(now, takes...)
				switch {
				case e != api.OK:
					t.Error(e)
				case try == takesAt:
					want := copyNotice(n)
					want.At = now
					want.Payload, _ = Payload(want)
					if len(taken) != 1 || len(lost) != 0 || !sameNotice(taken[0], want) {
						t.Error(try, taken, lost)
					}
				case try == 5:
					if len(taken) != 0 || len(lost) != 1 || !sameNotice(lost[0], n) {
						t.Error(try, taken, lost)
					}
				default:
					if next, e := x.s.Next(); len(taken)+len(lost) != 0 || next != now+1000<<(try-1) || e != api.OK {
						t.Error(try, taken, lost, next, e)
					}
					continue
				}
				if x.s.Len() != 0 {
					t.Error(x.s.Len())
				}
				break
			}
		}
	}
}

// TestP27_4_LastTime: a next try may lie behind the last time.
func TestP27_4_LastTime(t *testing.T) {
	x := newBoth(t)
	x.offer(maxTime, notice("team", "k"))
	x.try(maxTime)
	if n, e := x.s.Next(); n != maxTime+1000 || e != api.OK {
		t.Error(n, e)
	}
	x.try(maxTime, "team")
	if x.s.Len() != 1 {
		t.Error(x.s.Len())
	}
}

func TestP27_4_Order(t *testing.T) {
	x := newBoth(t)
	offers := []struct {
		now           int64
		receiver, key string
	}{{30, "b", "k"}, {10, "b", "l"}, {20, "a", "z"}, {10, "b", "k"}, {10, "a", "m"}, {10, "a", "k"}, {20, "a", "é"}, {20, "B", "z"}, {40, "a", "a"}, {10, "ab", "a"}}
	for _, o := range offers {
		x.offer(o.now, notice(o.receiver, o.key))
	}
	taken, _, _ := x.try(30, "a", "b", "B", "ab")
	var got []string
	for _, n := range taken {
		got = append(got, n.Receiver+n.Key)
	}
	// (b, k) was offered again, at 10, in the place of the one at 30.
	if want := []string{"ak", "am", "aba", "bk", "bl", "Bz", "az", "aé"}; !slices.Equal(got, want) {
		t.Errorf("%q; want %q", got, want)
	}
	// Those that are given up come in the same order.
	x = newBoth(t)
	for _, o := range offers {
		x.offer(o.now, notice(o.receiver, o.key))
	}
	for now := int64(0); now <= 20000; now += 10 {
		x.try(now, "ab")
	}
	if x.s.Len() != 0 {
		t.Error(x.s.Len())
	}
	// Late, all at once: by the times at which they were to be tried, not by when they came.
	x.offer(500, notice("b", "k"))
	x.offer(400, notice("c", "k"))
	x.offer(400, notice("a", "l"))
	for range 4 {
		x.try(100000)
	}
	for now := int64(100000); x.s.Len() > 0 && now < 200000; now += 20000 {
		x.try(now)
	}
}

func TestP27_4_Drop(t *testing.T) {
	for _, n := range []int{0, 1, 2, 10} {
		x := newBoth(t)
		for i := range n {
			x.offer(int64(10-i), notice("team", fmt.Sprint(i)))
		}
		x.try(5)
		x.drop()
		if n, e := x.s.Next(); n != 0 || e != api.ErrNone {
			t.Error(n, e)
		}
		x.try(maxTime, "team")
		x.offer(3, notice("team", "0"))
		x.try(3)
	}
}

// someCalls makes calls of a sender and its model, at random.
func someCalls(t *testing.T, r source, each func(x both, now int64, taken, lost []api.Notice)) {
	x := newBoth(t)
	now := int64(r.Intn(1000))
	for range 60 {
		now += int64(r.Intn(3)) * int64(r.Intn(1500))
		switch r.Intn(12) {
		case 0:
			x.try(now-int64(r.Intn(2000)), r.pick("a", "b"))
		case 1:
			if r.Intn(8) == 0 {
				x.drop()
			}
		case 2, 3, 4, 5:
			n := notice(r.pick("a", "b", "c"), r.pick("k", "l", "m"))
			n.Firing = r.sets(2)
			x.offer(now, n)
		default:
			taken, lost, _ := x.try(now, [][]string{nil, {"a"}, {"b", "c"}, {"d"}}[r.Intn(4)]...)
			each(x, now, taken, lost)
		}
		if t.Failed() {
			return
		}
	}
}

func TestP27_4_Model(t *testing.T) {
	r := newSource(274)
	seenTaken, seenLost := 0, 0
	for range 1500 {
		someCalls(t, r, func(x both, now int64, taken, lost []api.Notice) {
			seenTaken += len(taken)
			seenLost += len(lost)
			for _, n := range taken {
				if want, _ := payloadModel(n); n.At != now || n.Payload != want {
					t.Error(n)
				}
			}
			for _, n := range lost {
				if n.Payload != "of no matter" || n.At != 7 {
					t.Error(n)
				}
			}
		})
	}
	if seenTaken < 1000 || seenLost < 100 {
		t.Error(seenTaken, seenLost)
	}
}

// TestP27_7_InTime: asked at each of its times, a notification is tried five times, the last time fifteen seconds behind the first one, and taken by the first one at which its receiver takes.
func TestP27_7_InTime(t *testing.T) {
	times := []int64{0, 1000, 3000, 7000, 15000}
	for takes := range 6 {
		s := New()
		s.Offer(500, notice("team", "k"))
		for i, at := range times {
			if next, e := s.Next(); next != 500+at || e != api.OK {
				t.Error(takes, i, next, e)
			}
			var who []string
			if i >= takes {
				who = []string{"team"}
			}
			taken, lost, _ := s.Try(500+at, who)
			if (len(taken) == 1) != (i == takes) || (len(lost) == 1) != (i == 4 && takes == 5) {
				t.Error(takes, i, taken, lost)
			}
			if s.Len() == 0 {
				break
			}
		}
		if s.Len() != 0 {
			t.Error(takes, s.Len())
		}
	}
}

// TestP27_8_Others: a receiver that takes nothing keeps no other one's back.
func TestP27_8_Others(t *testing.T) {
	r := newSource(278)
	for range 300 {
		// The same, with and without the notifications of a receiver that takes nothing.
		with, without := New(), New()
		for now := int64(0); now < 40000; now += int64(r.Intn(1200)) {
			if r.Intn(2) == 0 {
				n := notice(r.pick("a", "b", "idle"), r.pick("k", "l"))
				with.Offer(now, n)
				if n.Receiver != "idle" {
					without.Offer(now, n)
				}
			}
			takes := []string{r.pick("a", "b", "c"), r.pick("b", "c")}
			taken, lost, _ := with.Try(now, takes)
			wantTaken, wantLost, _ := without.Try(now, takes)
			lost = slices.DeleteFunc(lost, func(n api.Notice) bool { return n.Receiver == "idle" })
			if !sameNotices(taken, wantTaken) || !sameNotices(lost, wantLost) {
				t.Fatal(now, taken, wantTaken, lost, wantLost)
			}
		}
	}
}

// TestSender_Crowd: several may offer and try at a time; each notification is taken once.
func TestSender_Crowd(t *testing.T) {
	s := New()
	var all sync.WaitGroup
	var count atomic.Int64
	for i := range 8 {
		all.Add(1)
		go func() {
			defer all.Done()
			for k := range 50 {
				s.Offer(0, notice("team", fmt.Sprint(i, "/", k)))
				taken, _, _ := s.Try(0, []string{"team"})
				count.Add(int64(len(taken)))
				s.Len()
				s.Next()
			}
		}()
	}
	all.Wait()
	if count.Load() != 400 || s.Len() != 0 {
		t.Error(count.Load(), s.Len())
	}
}

// TestRules_Sender: nothing that is handed in is kept or changed, and what is answered is new memory.
func TestRules_Sender(t *testing.T) {
	x := newBoth(t)
	room := make([][]api.Label, 1, 5)
	room[0] = append(make([]api.Label, 0, 5), of("a", "1")...)
	n := api.Notice{At: 3, Receiver: "team", Key: "k", Firing: room, Resolved: room, Payload: "p"}
	for _, key := range []string{"k", "l", "m"} {
		n.Key = key
		x.offer(0, n)
	}
	spoil(room)
	x.try(0)
	takes := []string{"team"}
	taken, _, _ := x.s.Try(1000, takes)
	takes[0] = "other"
	want, _, _ := x.m.try(1000, []string{"team"})
	if !sameNotices(taken, want) || len(taken) != 3 {
		t.Error(taken, want)
	}
	// What is written into one is seen in no other, nor in its other list.
	spoil(taken[0].Firing)
	if !sameSets(taken[0].Resolved, sets("1")) || !sameNotices(taken[1:], want[1:]) {
		t.Error(taken)
	}
	// Given up: as it was offered, and of no one else's memory.
	kept := notice("team", "k")
	x.offer(2000, kept)
	y := newBoth(t)
	y.offer(2000, kept)
	spoil(kept.Firing)
	spoil(kept.Resolved)
	for range 4 {
		next, _ := x.s.Next()
		x.try(next)
		y.try(next)
	}
	next, _ := x.s.Next()
	_, lost, _ := x.try(next)
	if len(lost) != 1 || !sameNotice(lost[0], notice("team", "k")) {
		t.Error(lost)
	}
	spoil(lost[0].Firing)
	if _, other, _ := y.try(next); !sameNotices(other, []api.Notice{notice("team", "k")}) {
		t.Error(other)
	}
}

// FuzzNotify holds a stage, and a sender, against their models; each call is made of eight bytes.
func FuzzNotify(f *testing.F) {
	f.Add(int64(100), "team", "0/{}", int64(50), "1", []byte("0123456789abcdef0123456789ABCDEF"))
	f.Add(int64(5), "r\"", "k\n", int64(1), "é", []byte("\x01\x01\x00\x00\x00\x00\x20\x00\x00\x00\x10\x00\x00\x00\x00\x00"))
	f.Fuzz(func(t *testing.T, now int64, receiver, key string, repeat int64, value string, b []byte) {
		x := newStage(fires("a", value), over("b", value), fires("job", "a", "level", "warning"))
		x.now, x.r.Receiver, x.f.Key, x.r.Repeat = now, receiver, key, repeat
		x.mute = holding()
		if len(b)%2 == 1 {
			x.firing = [][]api.Label{of("job", "a", "level", "critical"), of("a", value)}
		}
		n, told, _ := x.ask(t)
		if told {
			x.log.Put(Mark(n))
			x.ask(t)
			x.now++
			x.ask(t)
		}
		checkPayload(t, api.Notice{At: now, Receiver: receiver, Key: key, Firing: [][]api.Label{of("a", value)}})
		y := newBoth(t)
		at := int64(0)
		for ; len(b) >= 8 && !t.Failed(); b = b[8:] {
			at += int64(int16(binary.LittleEndian.Uint16(b[2:])))
			who := strings.Repeat(receiver, int(b[1]%3))
			switch b[0] % 4 {
			case 0:
				y.offer(at, notice(who, key))
			case 1:
				y.offer(at, notice("team", string(b[4:8])))
			case 2:
				y.try(at, who)
			default:
				y.try(at, "team", receiver)
			}
		}
	})
}
