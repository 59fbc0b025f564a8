package nfa

import (
	"slices"

	"auklet/api"
)

// plan is a part of a tree that is to be laid: its kind, what belongs to it, how many states it has.
type plan struct {
	kind        int
	set         api.Set
	least, most int
	size        int
	parts       []plan
}

// planOf is the plan of an r that can be; its size is MaxStates, if that of r, or of a part of r, is not below it.
func planOf(r api.Re) plan {
	q := plan{kind: r.K, set: r.Set, least: r.Min, most: r.Max}
	if r.K == api.ReAlt {
		q.size = len(r.L) - 1
	}
	for _, x := range r.L {
		part := planOf(x)
		q.size += part.size
		if q.size >= api.MaxStates {
			return plan{size: api.MaxStates}
		}
		// In a ReCat nothing would come of it, however often it is laid.
		if part.size > 0 || r.K != api.ReCat {
			q.parts = append(q.parts, part)
		}
	}
	switch r.K {
	case api.ReSet, api.ReBegin, api.ReEnd:
		q.size = 1
	case api.ReRep:
		q.size = min(repeated(q.size, r.Min, r.Max), api.MaxStates)
	}
	if q.size == 0 {
		// What has no states goes from each place to itself. To repeat it part by part might never end.
		return plan{kind: api.ReEmpty}
	}
	return q
}

// repeated is how many states a repetition has, of a part of n.
func repeated(n, least, most int) int {
	if most == -1 {
		return least*n + n + 1
	}
	return least*n + (most-least)*(n+1)
}

// put adds a state, and is its number.
func (p *Prog) put(s state) int {
	p.states = append(p.states, s)
	return len(p.states) - 1
}

// lay adds the states of q ahead of the state next, and is the number of the first of them; next, if there are none.
func (p *Prog) lay(q plan, next int) int {
	switch q.kind {
	case api.ReSet:
		return p.put(state{kind: byteOf, set: q.set, next: next})
	case api.ReBegin:
		return p.put(state{kind: begin, next: next})
	case api.ReEnd:
		return p.put(state{kind: end, next: next})
	case api.ReCat:
		for _, part := range slices.Backward(q.parts) {
			next = p.lay(part, next)
		}
		return next
	case api.ReAlt:
		return p.layBranches(q.parts, next)
	case api.ReRep:
		return p.layTimes(q, next)
	}
	return next
}

// layBranches adds the states of all parts, each ahead of next, and the forks between them.
func (p *Prog) layBranches(parts []plan, next int) int {
	last := len(parts) - 1
	first := p.lay(parts[last], next)
	for _, part := range slices.Backward(parts[:last]) {
		first = p.put(state{kind: fork, next: p.lay(part, next), other: first})
	}
	return first
}

// layTimes adds the states of a repetition: from behind what may be there, and what must be there.
func (p *Prog) layTimes(q plan, next int) int {
	part := q.parts[0]
	first := next
	if q.most == -1 {
		first = p.put(state{kind: fork, other: next})
		again := p.lay(part, first)
		p.states[first].next = again
	}
	// Below 0 times, if there is no bound: then none is laid.
	for range q.most - q.least {
		first = p.put(state{kind: fork, next: p.lay(part, first), other: next})
	}
	for range q.least {
		first = p.lay(part, first)
	}
	return first
}
