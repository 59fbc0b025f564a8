package syntax

import "auklet/api"

// stmt reads a statement, which is one deeper than what it stands in, and what ends it.
func (r *reader) stmt() api.Node {
	return r.deeper(func() api.Node {
		r.begin(r.stmtComes())
		switch {
		case r.isSign("{"):
			return r.block()
		case r.isSign(";"):
			n := r.node(api.SBlock)
			r.take()
			return n
		case r.isWord("if"):
			return r.choice()
		case r.isWord("while"):
			return r.while()
		case r.isWord("do"):
			return r.do()
		case r.isWord("for"):
			return r.loop()
		}
		n := r.simple()
		r.stop()
		return n
	})
}

// stmtComes tells whether a statement may begin with the token that comes.
func (r *reader) stmtComes() bool {
	return r.isSign("{", ";") || r.isWord("if", "while", "do", "for") || r.simpleComes()
}

// simpleComes tells whether a statement that has no others within may begin with the token that comes.
func (r *reader) simpleComes() bool {
	return r.isWord("print", "printf", "delete", "next", "exit", "return", "break", "continue") || r.operandComes()
}

// stop takes what ends a statement; a } or the end does, too, but is the next one's.
func (r *reader) stop() {
	if r.is(api.TokLine) || r.isSign(";") {
		r.take()
	} else if !r.isSign("}") {
		r.end()
	}
}

// asked reads an expression in brackets, ahead of what it decides about.
func (r *reader) asked() api.Node {
	var n api.Node
	r.within("(", func() { n = r.expr() }, ")")
	return n
}

// body reads a statement of another one, perhaps behind line feeds.
func (r *reader) body() api.Node {
	r.lines()
	return r.stmt()
}

// choice reads an if, and its else: line feeds ahead of it are taken even if none comes, as nothing hangs on them behind a statement.
func (r *reader) choice() api.Node {
	n := r.node(api.SIf)
	r.take()
	n.L = append(n.L, r.asked(), r.body())
	r.lines()
	if r.isWord("else") {
		r.take()
		n.L = append(n.L, r.body())
	}
	return n
}

// while reads a while.
func (r *reader) while() api.Node {
	n := r.node(api.SWhile)
	r.take()
	n.L = append(n.L, r.asked(), r.body())
	return n
}

// do reads a do, and its while.
func (r *reader) do() api.Node {
	n := r.node(api.SDo)
	r.take()
	n.L = append(n.L, r.body())
	r.lines()
	r.word("while")
	n.L = append(n.L, r.asked())
	r.stop()
	return n
}

// loop reads a for, of either kind.
func (r *reader) loop() api.Node {
	n := r.node(api.SFor)
	r.take()
	simple := func() api.Node { return r.deeper(r.simple) }
	r.within("(", func() {
		if r.eachComes() {
			n.K = api.SEach
			n.P = []string{r.name()}
			r.word("in")
			n.P = append(n.P, r.name())
			return
		}
		r.part(&n, ";", simple)
		r.sign(";")
		r.lines()
		r.part(&n, ";", r.expr)
		r.sign(";")
		r.lines()
		r.part(&n, ")", simple)
	}, ")")
	n.L = append(n.L, r.body())
	return n
}

// part reads a part of a for by a rule, unless the sign behind it comes, and notes whether it is there.
func (r *reader) part(n *api.Node, behind string, rule func() api.Node) {
	if r.isSign(behind) {
		n.S += "0"
		return
	}
	n.S += "1"
	n.L = append(n.L, rule())
}

// simple reads a statement that has no others within.
func (r *reader) simple() api.Node {
	if r.operandComes() {
		n := r.node(api.SExpr)
		n.L = []api.Node{r.expr()}
		return n
	}
	if r.isWord("print", "printf") {
		return r.print()
	}
	n := r.node(api.SNext)
	switch r.need(r.simpleComes()).S {
	case "delete":
		n.K = api.SDelete
		n.S, n.L = r.variable()
	case "exit":
		n.K = api.SExit
		n.L = r.perhaps()
	case "return":
		n.K = api.SReturn
		n.L = r.perhaps()
	case "break":
		n.K = api.SBreak
	case "continue":
		n.K = api.SGo
	}
	return n
}

// perhaps reads an expression, if one comes.
func (r *reader) perhaps() []api.Node {
	if !r.operandComes() {
		return nil
	}
	return []api.Node{r.expr()}
}

// print reads a print or a printf, which is to have something to print.
func (r *reader) print() api.Node {
	n := r.node(api.SPrint)
	if r.take().S == "printf" {
		n.K = api.SFormat
	}
	if n.K == api.SFormat || r.operandComes() {
		n.L = r.printed()
	}
	if r.isSign(">", ">>") {
		n.S = r.take().S
		n.L = append(n.L, r.deeper(r.cat))
	}
	return n
}

// printed reads what is printed, perhaps in brackets that are of no operand.
func (r *reader) printed() []api.Node {
	if r.isListInBrackets() {
		return r.listWithin("(", ")")
	}
	r.to = true
	l := r.list()
	r.to = false
	return l
}
