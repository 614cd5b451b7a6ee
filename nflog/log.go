package nflog

import (
	"cmp"
	"iter"
	"slices"

	"tocsin/api"
	"tocsin/spans"
)

// address is whom something was told, and of which group.
type address struct {
	receiver string
	key      string
}

func (a address) compare(other address) int {
	return cmp.Or(cmp.Compare(a.receiver, other.receiver), cmp.Compare(a.key, other.key))
}

func addressOf(m api.Mark) address {
	return address{receiver: m.Receiver, key: m.Key}
}

// Log has the last mark of each receiver and key.
type Log struct {
	marks list[address, api.Mark] // marks that can be; nobody writes into their lists
}

// New answers a log without marks.
func New() *Log {
	return &Log{}
}

// Find tells the last mark of a receiver and a key.
func (l *Log) Find(receiver, key string) (api.Mark, bool) {
	if l == nil {
		return api.Mark{}, false
	}
	m, there := l.marks.get(address{receiver: receiver, key: key})
	return copyOf(m), there
}

// Put lays down a mark, in the place of the last one of its receiver and key.
func (l *Log) Put(m api.Mark) api.Errno {
	if l == nil {
		return api.ErrNil
	}
	if e := Right(m); e != api.OK {
		return e
	}
	if old, there := l.marks.get(addressOf(m)); there && old.At > m.At {
		return api.ErrOld
	}
	return l.lay(m)
}

// lay lays down a mark that can be, whatever the At of the one that is there, if there is room.
func (l *Log) lay(m api.Mark) api.Errno {
	where := addressOf(m)
	if _, there := l.marks.get(where); !there && l.Len() >= api.MaxAlerts {
		return api.ErrFull
	}
	l.marks.put(where, copyOf(m))
	return api.OK
}

// Needs tells whether what fires and is resolved now must be told to a receiver, of the group of a key.
func (l *Log) Needs(receiver, key string, now, repeat int64, firing, resolved [][]api.Label) (bool, api.Errno) {
	if l == nil {
		return false, api.ErrNil
	}
	m, has := l.marks.get(address{receiver: receiver, key: key})
	return Needs(m, has, now, repeat, firing, resolved)
}

// Sweep takes away the marks that are so old, and tells how many went.
func (l *Log) Sweep(now, keep int64) (int, api.Errno) {
	switch {
	case l == nil:
		return 0, api.ErrNil
	case !spans.Time(now), !spans.Right(keep):
		return 0, api.ErrArg
	}
	return l.marks.drop(func(m api.Mark) bool { return m.At <= now-keep }), api.OK
}

// Len tells how many marks there are.
func (l *Log) Len() int {
	if l == nil {
		return 0
	}
	return len(l.marks.all)
}

// All tells the marks that are there now, by Receiver, then Key, whatever comes and goes while they are gone through.
func (l *Log) All() iter.Seq[api.Mark] {
	var all []api.Mark
	if l != nil {
		all = slices.Collect(l.marks.values())
	}
	return func(yield func(api.Mark) bool) {
		for _, m := range all {
			if !yield(copyOf(m)) {
				return
			}
		}
	}
}
