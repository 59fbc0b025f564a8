package ere

import (
	"strings"

	"auklet/api"
	"auklet/class"
)

// fault is what gives a reading up: the place of what can't be read, and why it can't.
type fault struct {
	at int
	e  api.Errno
}

// reader reads s from the left: it is at the place at, within so many ( that are open.
type reader struct {
	s    string
	at   int
	open int
}

// Parse is the tree of the pattern s; or else the place of the first fault, and which one it is.
func Parse(s string) (r api.Re, at int, e api.Errno) {
	defer func() {
		if x := recover(); x != nil {
			f := x.(fault) // what is no fault of the text goes on as a panic
			r, at, e = api.Re{}, f.at, f.e
		}
	}()
	if len(s) > api.MaxPattern {
		panic(fault{0, api.ErrLong})
	}
	p := &reader{s: s}
	r = p.pattern()
	if p.at < len(s) {
		// A pattern ends at the end, or at a ): here none was open.
		panic(fault{p.at, api.ErrForm})
	}
	return r, 0, api.OK
}

// comes tells whether one of the bytes of signs comes next.
func (p *reader) comes(signs string) bool {
	return p.at < len(p.s) && strings.IndexByte(signs, p.s[p.at]) >= 0
}

// pattern reads branches, up to a ) or the end.
func (p *reader) pattern() api.Re {
	branches := []api.Re{p.branch()}
	for p.comes("|") {
		p.at++
		branches = append(branches, p.branch())
	}
	return joined(api.ReAlt, branches)
}

// branch reads pieces, up to a |, a ) or the end.
func (p *reader) branch() api.Re {
	var pieces []api.Re
	for p.at < len(p.s) && !p.comes("|)") {
		pieces = append(pieces, p.piece())
	}
	return joined(api.ReCat, pieces, api.ReEmpty)
}

// piece reads an atom, and all repetitions behind it.
func (p *reader) piece() api.Re {
	r := p.atom()
	for p.comes("*+?{") {
		least, most := p.times()
		r = api.Re{K: api.ReRep, Min: least, Max: most, L: []api.Re{r}}
	}
	return r
}

// atom reads an atom; there is a byte of it at least.
func (p *reader) atom() api.Re {
	at := p.at
	c := p.s[at]
	p.at++
	switch c {
	case '(':
		return p.group(at)
	case '[':
		return p.bracket(at)
	case '\\':
		return p.escaped()
	case '*', '+', '?', '{':
		panic(fault{at, api.ErrRepeat})
	case '.':
		return api.Re{K: api.ReSet, Set: class.Not(api.Set{})}
	case '^':
		return api.Re{K: api.ReBegin}
	case '$':
		return api.Re{K: api.ReEnd}
	}
	return ofByte(c)
}

// group reads what is behind the ( at the place at, and its ).
func (p *reader) group(at int) api.Re {
	if p.open == api.MaxNest {
		panic(fault{at, api.ErrLong})
	}
	p.open++
	r := p.pattern()
	if p.at == len(p.s) {
		panic(fault{p.at, api.ErrShort})
	}
	p.at++
	p.open--
	return r
}

// bracket reads the bracket expression that begins at the place at.
func (p *reader) bracket(at int) api.Re {
	set, end, e := class.Parse(p.s, at)
	if e != api.OK {
		panic(fault{at, e})
	}
	p.at = end
	return api.Re{K: api.ReSet, Set: set}
}

// escaped reads the byte behind a \.
func (p *reader) escaped() api.Re {
	if p.at == len(p.s) {
		panic(fault{p.at, api.ErrShort})
	}
	c := p.s[p.at]
	p.at++
	switch c {
	case 'n':
		c = '\n'
	case 't':
		c = '\t'
	}
	return ofByte(c)
}

// times reads a repetition: how often at least, and at most; -1 is as often as may be.
func (p *reader) times() (int, int) {
	at := p.at
	p.at++
	switch p.s[at] {
	case '*':
		return 0, -1
	case '+':
		return 1, -1
	case '?':
		return 0, 1
	}
	inside, _, closed := strings.Cut(p.s[p.at:], "}")
	least, most, ok := counts(inside)
	if !closed || !ok || !areTimes(least, most) {
		panic(fault{at, api.ErrRepeat})
	}
	p.at += len(inside) + len("}")
	return least, most
}

// counts reads what stands between { and }, and tells whether it is of one of the three forms.
func counts(s string) (int, int, bool) {
	from, to, two := strings.Cut(s, ",")
	least, ok := number(from)
	switch {
	case !ok:
		return 0, 0, false
	case !two:
		return least, least, true
	case to == "":
		return least, -1, true
	}
	most, ok := number(to)
	return least, most, ok
}

// number reads one or two digits, and tells whether s is that.
func number(s string) (int, bool) {
	if len(s) < 1 || len(s) > 2 {
		return 0, false
	}
	n := 0
	for i := range len(s) {
		if s[i] < '0' || s[i] > '9' {
			return 0, false
		}
		n = n*10 + int(s[i]-'0')
	}
	return n, true
}

// ofByte is the pattern of that byte.
func ofByte(c byte) api.Re {
	return api.Re{K: api.ReSet, Set: class.Add(api.Set{}, c, c)}
}

// joined is one of that kind with the parts, or what is left of them: those of a part that is of that kind itself stand in its place, and parts of the kinds that are dropped are left out.
func joined(kind int, parts []api.Re, dropped ...int) api.Re {
	var l []api.Re
	for _, part := range parts {
		switch {
		case isOf(part, kind):
			l = append(l, part.L...)
		case !isOf(part, dropped...):
			l = append(l, part)
		}
	}
	switch len(l) {
	case 0:
		return api.Re{}
	case 1:
		return l[0]
	}
	return api.Re{K: kind, L: l}
}
