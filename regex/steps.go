package regex

// step is a place in an expression: a rune is taken there, and then the next step comes; or it is a fork, and both ways are gone.
type step struct {
	take  int
	next  int
	other int
}

const (
	// end is the step behind the whole expression.
	end = 0
	// fork is the take of a step that takes no rune.
	fork = -1
)

type builder struct {
	steps []step
}

// laid answers the steps of an expression, and which of them is the first.
func laid(whole *part) ([]step, int) {
	b := &builder{}
	b.add(step{take: fork})
	start := b.lay(whole, end)
	return b.steps, start
}

func (b *builder) add(s step) int {
	b.steps = append(b.steps, s)
	return len(b.steps) - 1
}

// lay lays the steps of p, behind which the step next comes, and tells the first one of them.
func (b *builder) lay(p *part, next int) int {
	switch p.kind {
	case row:
		for i := len(p.parts) - 1; i >= 0; i-- {
			next = b.lay(p.parts[i], next)
		}
		return next
	case choice:
		return b.layChoice(p, next)
	case repeat:
		return b.layRepeat(p, next)
	}
	return b.add(step{take: p.take, next: next})
}

// layChoice lays forks to all rows, but one alone to all that are the empty text: so there are never many more steps than states.
func (b *builder) layChoice(p *part, next int) int {
	var firsts []int
	empty := false
	for _, one := range p.parts {
		if one.states == 0 {
			empty = true
			continue
		}
		firsts = append(firsts, b.lay(one, next))
	}
	if empty {
		firsts = append(firsts, next)
	}
	at := firsts[0]
	for _, first := range firsts[1:] {
		at = b.add(step{take: fork, next: at, other: first})
	}
	return at
}

func (b *builder) layRepeat(p *part, next int) int {
	e := p.parts[0]
	if e.states == 0 {
		return next
	}
	at, left := next, p.least
	if p.most == unbounded {
		loop := b.add(step{take: fork, other: next})
		first := b.lay(e, loop)
		b.steps[loop].next = first
		at = loop
		if left > 0 {
			// Who comes in behind the fork has gone through once: so e+ has no more steps than e*.
			at, left = first, left-1
		}
	} else {
		for range p.most - p.least {
			at = b.add(step{take: fork, next: b.lay(e, at), other: next})
		}
	}
	for range left {
		at = b.lay(e, at)
	}
	return at
}
