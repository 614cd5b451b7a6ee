package notify

import (
	"cmp"
	"slices"
	"sync"

	"tocsin/api"
)

// waiting is a notification that waits.
type waiting struct {
	api.Notice // nobody else has its lists
	next       int64
	tries      int // how often it was tried
}

// list has the notifications that wait, in the order in which they are tried, one of each receiver and key.
type list struct {
	sync.Mutex
	all []waiting
}

// put lays down a notification; none of its receiver and key may be there.
func (l *list) put(x waiting) {
	at, _ := slices.BinarySearchFunc(l.all, x, inTurn)
	l.all = slices.Insert(l.all, at, x)
}

// drop takes away the notification of a receiver and a key, if there is one.
func (l *list) drop(receiver, key string) {
	l.all = slices.DeleteFunc(l.all, func(x waiting) bool { return x.Receiver == receiver && x.Key == key })
}

// takeDue takes away the first notification, if its time has come.
func (l *list) takeDue(now int64) (waiting, bool) {
	if len(l.all) == 0 || l.all[0].next > now {
		return waiting{}, false
	}
	x := l.all[0]
	l.all = slices.Delete(l.all, 0, 1)
	return x, true
}

func inTurn(a, b waiting) int {
	return cmp.Or(cmp.Compare(a.next, b.next), cmp.Compare(a.Receiver, b.Receiver), cmp.Compare(a.Key, b.Key))
}
