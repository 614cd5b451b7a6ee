package head

import (
	"sync"

	"tocsin/api"
)

const mostAskers = 8

// counts is what Len, Samples and Refused tell.
type counts [3]int64

func (h *Head) counts() counts {
	return counts{int64(h.Len()), int64(h.Samples()), h.Refused()}
}

// above: is one of these more than it is in other?
func (c counts) above(other counts) bool {
	for i, n := range c {
		if n > other[i] {
			return true
		}
	}
	return false
}

// asker is what one of those who ask was told.
type asker struct {
	told counts
	less bool // It was told less than before.
}

// ask asks with each turn, until there are no more. (Turns, since one that goes round by itself may keep the others from going on.)
func (a *asker) ask(h *Head, turns <-chan int) {
	for range turns {
		now := h.counts()
		a.less = a.less || a.told.above(now)
		a.told = now
	}
}

// Crowd appends all samples while others ask how many there are: what each Append answered, and whether the askers were told what may be.
func (h *Head) Crowd(l []api.Series, askers int) ([]api.Errno, bool, api.Errno) {
	switch {
	case h == nil:
		return nil, false, api.ErrNil
	case askers < 1 || askers > mostAskers:
		return nil, false, api.ErrArg
	}
	crowd := make([]asker, askers)
	turns := make([]chan int, askers)
	var all sync.WaitGroup
	for i := range crowd {
		turns[i] = make(chan int, 1)
		all.Add(1)
		go func() {
			defer all.Done()
			crowd[i].ask(h, turns[i])
		}()
	}
	out := h.appendAll(l, turns)
	all.Wait()
	return out, fine(crowd, h.counts()), api.OK
}

// appendAll appends all samples, and gives each asker a turn with each of them; there are no more turns behind the last one.
func (h *Head) appendAll(l []api.Series, turns []chan int) []api.Errno {
	var out []api.Errno
	for _, s := range l {
		for _, one := range s.Samples {
			for _, turn := range turns {
				turn <- len(out)
			}
			out = append(out, h.Append(s.Labels, one))
		}
	}
	for _, turn := range turns {
		close(turn)
	}
	return out
}

// fine: was no asker told less than before, or more than there are in the end?
func fine(crowd []asker, end counts) bool {
	for _, a := range crowd {
		if a.less || a.told.above(end) {
			return false
		}
	}
	return true
}
