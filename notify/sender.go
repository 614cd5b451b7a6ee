package notify

import (
	"slices"

	"tocsin/api"
	"tocsin/labelsets"
	"tocsin/spans"
)

// firstPause is how long a notification waits behind its first try; it is twice as long behind each next one.
const firstPause = 1000

// Sender has notifications that wait until they are taken, or given up.
type Sender struct {
	list list
}

// New answers a sender for which nothing waits.
func New() *Sender {
	return &Sender{}
}

// Offer lets a notification wait, in the place of one with its receiver and key; it is tried from now on.
func (s *Sender) Offer(now int64, n api.Notice) api.Errno {
	switch {
	case s == nil:
		return api.ErrNil
	case !spans.Time(now):
		return api.ErrArg
	}
	if e := fault(n); e != api.OK {
		return e
	}
	n.Firing, n.Resolved = labelsets.Copy(n.Firing), labelsets.Copy(n.Resolved)
	s.list.Lock()
	defer s.list.Unlock()
	s.list.drop(n.Receiver, n.Key)
	if len(s.list.all) >= api.MaxAlerts {
		// So none was dropped.
		return api.ErrFull
	}
	s.list.put(waiting{next: now, Notice: n})
	return api.OK
}

// Try tries each notification whose time has come once: it tells those that their receivers took, and those that are given up.
func (s *Sender) Try(now int64, takes []string) ([]api.Notice, []api.Notice, api.Errno) {
	switch {
	case s == nil:
		return nil, nil, api.ErrNil
	case !spans.Time(now):
		return nil, nil, api.ErrArg
	}
	s.list.Lock()
	defer s.list.Unlock()
	var taken, lost []api.Notice
trying:
	for {
		x, is := s.list.takeDue(now)
		switch {
		case !is:
			break trying
		case slices.Contains(takes, x.Receiver):
			taken = append(taken, x.toldAt(now))
		case x.tries == api.MaxTries-1:
			lost = append(lost, x.Notice)
		default:
			s.list.put(x.triedAt(now))
		}
	}
	return taken, lost, api.OK
}

// Len tells how many wait.
func (s *Sender) Len() int {
	if s == nil {
		return 0
	}
	s.list.Lock()
	defer s.list.Unlock()
	return len(s.list.all)
}

// Next tells when the next one is tried.
func (s *Sender) Next() (int64, api.Errno) {
	if s == nil {
		return 0, api.ErrNil
	}
	s.list.Lock()
	defer s.list.Unlock()
	if len(s.list.all) == 0 {
		return 0, api.ErrNone
	}
	return s.list.all[0].next, api.OK
}

// Drop lets none wait any more.
func (s *Sender) Drop() {
	if s == nil {
		return
	}
	s.list.Lock()
	defer s.list.Unlock()
	s.list.all = nil
}

// toldAt answers the notification as it is told at now.
func (x waiting) toldAt(now int64) api.Notice {
	n := x.Notice
	n.At = now
	n.Payload = written(n)
	return n
}

// triedAt answers it as it waits behind a try that its receiver did not take.
func (x waiting) triedAt(now int64) waiting {
	x.next = now + firstPause<<x.tries
	x.tries++
	return x
}
