package rules

import (
	"tocsin/api"
	"tocsin/spans"
)

// never stands for the time of what has not been.
const never = -1

// life is what an alert has gone through so far. The zero life is that of an alert which is not there.
type life struct {
	state int
	since int64
	fired int64
	gone  int64
}

// waiting answers the life of what is told since then, and does not fire.
func waiting(since int64) life {
	return life{state: api.SPending, since: since, fired: never, gone: never}
}

// told answers the life behind an evaluation that tells the alert; it fires when it was told for so long.
func (l life) told(now, wait int64) life {
	if l == (life{}) {
		l = waiting(now)
	}
	l.gone = never
	if l.state == api.SPending && now-l.since >= wait {
		l.state = api.SFiring
		l.fired = now
	}
	return l
}

// missed answers the life behind an evaluation that does not tell the alert; what fires stays for so long.
func (l life) missed(now, keep int64) life {
	if l.state == api.SPending {
		return life{}
	}
	if l.gone == never {
		l.gone = now
	}
	if now-l.gone >= keep {
		return life{}
	}
	return l
}

// canBe: can a life be this one behind an evaluation at last?
func (l life) canBe(last int64) bool {
	switch {
	case !spans.Within(l.since, 0, last):
		return false
	case l.state == api.SPending:
		return l == waiting(l.since)
	case l.state == api.SFiring:
		return spans.Within(l.fired, l.since, last) && (l.gone == never || spans.Within(l.gone, l.fired, last))
	}
	return false
}
