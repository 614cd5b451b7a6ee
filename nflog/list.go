package nflog

import (
	"iter"
	"slices"
)

// ordered are keys, of which one can be held against another.
type ordered[K any] interface {
	comparable
	compare(other K) int
}

// list has values, rising by their keys, one of each key.
type list[K ordered[K], V any] struct {
	all []entry[K, V]
}

// entry is a value, and the key by which it is found.
type entry[K ordered[K], V any] struct {
	key   K
	value V
}

// find answers where the value of a key stands, or would stand, and whether it is there.
func (l *list[K, V]) find(k K) (int, bool) {
	at, _ := slices.BinarySearchFunc(l.all, k, func(x entry[K, V], k K) int { return x.key.compare(k) })
	return at, at < len(l.all) && l.all[at].key == k
}

func (l *list[K, V]) get(k K) (V, bool) {
	at, there := l.find(k)
	if !there {
		var none V
		return none, false
	}
	return l.all[at].value, true
}

// put lays down the value of a key, in the place of the one that is there.
func (l *list[K, V]) put(k K, v V) {
	at, there := l.find(k)
	if there {
		l.all[at].value = v
		return
	}
	l.all = slices.Insert(l.all, at, entry[K, V]{key: k, value: v})
}

// drop takes away the values that go, and tells how many went.
func (l *list[K, V]) drop(goes func(V) bool) int {
	had := len(l.all)
	l.all = slices.DeleteFunc(l.all, func(x entry[K, V]) bool { return goes(x.value) })
	return had - len(l.all)
}

// values tells the values in the order of their keys.
func (l *list[K, V]) values() iter.Seq[V] {
	return func(yield func(V) bool) {
		for _, x := range l.all {
			if !yield(x.value) {
				return
			}
		}
	}
}
