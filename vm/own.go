package vm

import (
	"strconv"

	"auklet/api"
	"auklet/cell"
	"auklet/match"
	"auklet/subst"
	"auklet/text"
)

// manyPatterns is how many patterns are kept, so that those of a loop are not made again and again.
const manyPatterns = 64

// pattern is the pattern of a text.
func (m *machine) pattern(s string) *match.Pattern {
	if p := m.patterns[s]; p != nil {
		return p
	}
	p, _, e := match.New(s)
	check(e)
	if len(m.patterns) == manyPatterns {
		clear(m.patterns)
	}
	m.patterns[s] = p
	return p
}

// isPattern tells whether a separator is a pattern.
func isPattern(separator string) bool { return len(separator) > 1 || separator == `\` }

// find takes a text and a pattern, and is where it is found: what is ahead of it, it, and whether it is.
func (m *machine) find() (ahead, part string, found bool) {
	p := m.pattern(m.popText())
	s := m.popText()
	limit(len(s), api.MaxSubject)
	begin, end, found := p.Find(s, 0)
	return s[:begin], s[begin:end], found
}

// where is what match tells.
func (m *machine) where() api.Cell {
	ahead, part, found := m.find()
	begin, long := 0, -1
	if found {
		begin, long = text.Len(ahead)+1, text.Len(part)
	}
	m.vars[rstart], m.vars[rlength] = number(begin), number(long)
	return m.vars[rstart]
}

// split takes a text and a separator, and fills the array with the text's parts.
func (m *machine) split(byPattern bool, a array) api.Cell {
	separator := m.popText()
	s := m.popText()
	parts := m.parts(s, separator, byPattern || isPattern(separator))
	a.clear()
	for i, part := range parts {
		m.step()
		a.put(strconv.Itoa(i+1), cell.Input(part))
	}
	return number(len(parts))
}

// parts are the parts of s, as the separator says.
func (m *machine) parts(s, separator string, byPattern bool) []string {
	if byPattern {
		p := m.pattern(separator)
		limit(len(s), api.MaxSubject)
		return subst.Split(p, s)
	}
	parts, _, e := subst.At(s, separator)
	check(e)
	return parts
}

// sub takes a pattern and what to put, and replaces what is found in a place: all of it, or the first.
func (m *machine) sub(all bool, to place) api.Cell {
	by := m.popText()
	p := m.pattern(m.popText())
	s := cell.Str(to.load())
	limit(len(s), api.MaxSubject)
	limit(len(by), api.MaxSubject)
	replace := subst.Sub
	if all {
		replace = subst.All
	}
	made, many := replace(p, by, s)
	limit(len(made), api.MaxText)
	if many > 0 {
		to.set(cell.OfStr(made))
	}
	return number(many)
}

// sync lets kept arrays stand fast.
func (m *machine) sync() api.Cell {
	if m.keeper != nil {
		check(m.keeper.Sync())
	}
	return number(1)
}
