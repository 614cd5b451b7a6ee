// Package spans judges spans and times, which most layers are given.
package spans

import "tocsin/api"

// Right tells whether it is a span.
func Right(n int64) bool {
	return Within(n, 0, api.MaxSpan)
}

// Some tells whether it is a span that is not 0.
func Some(n int64) bool {
	return Within(n, 1, api.MaxSpan)
}

// Time tells whether it is a time.
func Time(t int64) bool {
	return Within(t, 0, api.MaxTime)
}

// Bound tells whether something that lasts may begin, or end, then: it may end a span behind the last time.
func Bound(t int64) bool {
	return Within(t, 0, api.MaxTime+api.MaxSpan)
}

// Within tells whether it is not below from, and not above to.
func Within(n, from, to int64) bool {
	return from <= n && n <= to
}
