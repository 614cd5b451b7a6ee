package regex

// walk is all ways through an expression at once, which a text is gone along rune by rune: a step that several ways reach is reached once, and so no text takes longer than its length times the steps.
type walk struct {
	steps []step
	takes []func(rune) bool
	taken []bool // By take, whether it takes the rune of this round.
	round int
	seen  []int // By step, the last round in which it was reached.
	live  []int // The steps that take a rune next.
	spare []int
}

func newWalk(r *Regex) *walk {
	w := &walk{steps: r.steps, takes: r.takes, taken: make([]bool, len(r.takes)), round: 1, seen: make([]int, len(r.steps))}
	w.reach(r.start)
	return w
}

// goOn takes a rune.
func (w *walk) goOn(c rune) {
	for i, take := range w.takes {
		// Each is asked once, however often a repeat has laid its step.
		w.taken[i] = take(c)
	}
	from := w.live
	w.live = w.spare[:0]
	w.round++
	for _, at := range from {
		if s := w.steps[at]; w.taken[s.take] {
			w.reach(s.next)
		}
	}
	w.spare = from
}

// reach goes to a step, and along all forks behind it, up to those steps that take a rune.
func (w *walk) reach(at int) {
	for at != end && w.seen[at] != w.round {
		w.seen[at] = w.round
		s := w.steps[at]
		if s.take != fork {
			w.live = append(w.live, at)
			return
		}
		w.reach(s.next)
		at = s.other
	}
	w.seen[at] = w.round
}

func (w *walk) ended() bool {
	return w.seen[end] == w.round
}
