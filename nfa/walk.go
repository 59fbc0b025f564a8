package nfa

import "auklet/class"

// walker is in all states at once to which a machine may come at a place.
type walker struct {
	states []state
	size   int   // the text's length
	seen   []int // the place at which each state was come to last, and one: 0 is at none
	wait   []int // the states at the place that a byte leads on from
	tell   func(place int)
}

// walk goes through s from the place at on, and tells the places at which the pattern may end, rising.
func (p *Prog) walk(s string, at int, tell func(place int)) {
	if at < 0 || at > len(s) || len(p.states) == 0 {
		return
	}
	w := &walker{states: p.states, size: len(s), seen: make([]int, len(p.states)), tell: tell}
	w.come(p.start, at)
	var now []int
	for place := at; place < len(s) && len(w.wait) > 0; place++ {
		now, w.wait = w.wait, now[:0]
		for _, i := range now {
			if class.Has(w.states[i].set, s[place]) {
				w.come(w.states[i].next, place+1)
			}
		}
	}
}

// come comes to the state i at a place, and to all to which it leads on without a byte: to each but once, as they may lead in a ring.
func (w *walker) come(i, place int) {
	if w.seen[i] == place+1 {
		return
	}
	w.seen[i] = place + 1
	s := w.states[i]
	switch s.kind {
	case goal:
		w.tell(place)
	case byteOf:
		w.wait = append(w.wait, i)
	case begin:
		if place == 0 {
			w.come(s.next, place)
		}
	case end:
		if place == w.size {
			w.come(s.next, place)
		}
	case fork:
		w.come(s.next, place)
		w.come(s.other, place)
	}
}
