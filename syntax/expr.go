package syntax

import (
	"strings"

	"auklet/api"
	"auklet/dec"
)

// operandComes tells whether an expression, or an operand, may begin with the token that comes.
func (r *reader) operandComes() bool {
	return r.anotherComes() || r.is(api.TokRegex) || r.isSign("!", "-", "+") || r.isWord("getline")
}

// anotherComes tells whether what comes is joined to the operand ahead of it, with no sign between.
func (r *reader) anotherComes() bool {
	switch r.here().K {
	case api.TokNum, api.TokStr, api.TokName, api.TokCall, api.TokOwn:
		return true
	}
	return r.isSign("$", "(", "++", "--")
}

// placeComes tells whether what comes can be set.
func (r *reader) placeComes() bool { return r.is(api.TokName) || r.isSign("$") }

// list reads expressions with commas between.
func (r *reader) list() []api.Node {
	l := []api.Node{r.expr()}
	for r.isSign(",") {
		r.take()
		r.lines()
		l = append(l, r.expr())
	}
	return l
}

// listWithin reads expressions in brackets.
func (r *reader) listWithin(open, closing string) []api.Node {
	var l []api.Node
	r.within(open, func() { l = r.list() }, closing)
	return l
}

// expr reads an expression, which is one deeper than what it stands in.
func (r *reader) expr() api.Node {
	return r.deeper(func() api.Node {
		r.begin(r.operandComes())
		if r.isAssignment() {
			return r.assign()
		}
		return r.cond()
	})
}

// assign reads an assignment, from the right.
func (r *reader) assign() api.Node {
	to := r.place()
	s := r.take().S
	if s != "=" {
		s = strings.TrimSuffix(s, "=")
	}
	r.lines()
	return api.Node{K: api.EAssign, S: s, At: to.At, L: []api.Node{to, r.expr()}}
}

// cond reads operands of ||, or with ? and : what one of them decides about.
func (r *reader) cond() api.Node {
	n := r.or()
	if !r.isSign("?") {
		return n
	}
	r.take()
	r.lines()
	yes := r.expr()
	r.sign(":")
	r.lines()
	return api.Node{K: api.ECond, At: n.At, L: []api.Node{n, yes, r.expr()}}
}

// pair takes the sign that comes, reads an operand behind it, and makes a node of it and the one ahead.
func (r *reader) pair(k int, ahead api.Node, operand func() api.Node) api.Node {
	s := r.take().S
	if k == api.EOr || k == api.EAnd {
		s = "" // the kind says it
		r.lines()
	}
	return api.Node{K: k, S: s, At: ahead.At, L: []api.Node{ahead, operand()}}
}

// leftward reads operands with signs between, from the left.
func (r *reader) leftward(k int, operand func() api.Node, signs ...string) api.Node {
	n := operand()
	for r.isSign(signs...) {
		n = r.pair(k, n, operand)
	}
	return n
}

// or reads operands of ||.
func (r *reader) or() api.Node {
	return r.leftward(api.EOr, func() api.Node { return r.and() }, "||")
}

// and reads operands of &&.
func (r *reader) and() api.Node {
	return r.leftward(api.EAnd, func() api.Node { return r.in() }, "&&")
}

// in reads an operand, or more of them in brackets, and the arrays that are asked for it.
func (r *reader) in() api.Node {
	var n api.Node
	if r.isSign("(") && r.comma[r.at] {
		at := r.here().At
		n = r.has(at, r.listWithin("(", ")"))
	} else {
		n = r.match()
	}
	for r.isWord("in") {
		n = r.has(n.At, []api.Node{n})
	}
	return n
}

// has reads in, and the array that is asked for l.
func (r *reader) has(at int, l []api.Node) api.Node {
	r.word("in")
	return api.Node{K: api.EIn, S: r.name(), At: at, L: l}
}

// match reads operands of ~ and !~.
func (r *reader) match() api.Node {
	return r.leftward(api.EMatch, func() api.Node { return r.cmp() }, "~", "!~")
}

// cmp reads an operand, or two that are compared: a third one would be compared with yes or no.
func (r *reader) cmp() api.Node {
	n := r.cat()
	if r.isSign("<", "<=", "==", "!=", ">=") || !r.to && r.isSign(">") {
		return r.pair(api.ECmp, n, func() api.Node { return r.cat() })
	}
	return n
}

// cat reads operands that are joined.
func (r *reader) cat() api.Node {
	n := r.sum()
	for r.anotherComes() {
		n = api.Node{K: api.ECat, At: n.At, L: []api.Node{n, r.sum()}}
	}
	return n
}

// sum reads operands of + and -.
func (r *reader) sum() api.Node {
	return r.leftward(api.EBin, func() api.Node { return r.term() }, "+", "-")
}

// term reads operands of *, / and %.
func (r *reader) term() api.Node {
	return r.leftward(api.EBin, func() api.Node { return r.unary() }, "*", "/", "%")
}

// unary reads an operand, perhaps with signs ahead, each of which makes what is behind it deeper.
func (r *reader) unary() api.Node {
	r.begin(r.operandComes())
	if !r.isSign("!", "-", "+") {
		return r.post()
	}
	n := r.node(api.EUn)
	n.S = r.take().S
	n.L = []api.Node{r.deeper(r.unary)}
	return n
}

// post reads an operand, perhaps with a step ahead or behind.
func (r *reader) post() api.Node {
	if !r.placeComes() {
		return r.stepped()
	}
	n := r.place()
	if r.isSign("++", "--") {
		return api.Node{K: api.EStep, S: "x" + r.take().S, At: n.At, L: []api.Node{n}}
	}
	return n
}

// stepped reads an operand, perhaps with a step ahead.
func (r *reader) stepped() api.Node {
	if !r.isSign("++", "--") {
		return r.primary()
	}
	n := r.node(api.EStep)
	n.S = r.take().S + "x"
	n.L = []api.Node{r.place()}
	return n
}

// place reads what can be set.
func (r *reader) place() api.Node {
	n := r.node(api.EField)
	if r.isSign("$") {
		r.take()
		n.L = []api.Node{r.deeper(r.stepped)}
		return n
	}
	n.S, n.L = r.variable()
	n.K = api.EVar
	if n.L != nil {
		n.K = api.EIndex
	}
	return n
}

// variable reads a name, and in brackets what of it, perhaps.
func (r *reader) variable() (string, []api.Node) {
	s := r.name()
	if !r.isSign("[") {
		return s, nil
	}
	return s, r.listWithin("[", "]")
}

// primary reads an operand without signs.
func (r *reader) primary() api.Node {
	n := r.node(api.ENum)
	switch r.here().K {
	case api.TokNum:
		n.N = r.number()
	case api.TokStr:
		n.K = api.EStr
		n.S = r.take().S
	case api.TokRegex:
		n.K = api.ERegex
		n.S = r.take().S
	case api.TokCall:
		n.K = api.ECall
		n.S = r.take().S
		n.L = r.arguments()
	case api.TokOwn:
		return r.own()
	default:
		return r.grouped()
	}
	return n
}

// number takes a number, which may be too great.
func (r *reader) number() int64 {
	number, _, e := dec.Parse(r.here().S)
	if e != api.OK {
		r.fail(e)
	}
	r.take()
	return number
}

// grouped reads an operand that is of several tokens.
func (r *reader) grouped() api.Node {
	switch {
	case r.placeComes():
		return r.place()
	case r.isWord("getline"):
		return r.get()
	}
	at := r.here().At
	n := r.asked()
	n.At = at
	return n
}

// get reads a getline: what it reads into, and from which file, if they come.
func (r *reader) get() api.Node {
	n := r.node(api.EGet)
	r.take()
	if r.placeComes() {
		n.S = "v"
		n.L = append(n.L, r.place())
	}
	if r.isSign("<") {
		r.take()
		n.S += "f"
		n.L = append(n.L, r.primary())
	}
	return n
}
