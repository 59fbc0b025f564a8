package syntax

import "auklet/api"

// program reads all tokens as a program.
func (r *reader) program() api.Node {
	n := r.node(api.Program)
	for !r.is(api.TokEnd) {
		if r.is(api.TokLine) || r.isSign(";") {
			r.take()
			continue
		}
		item := r.item()
		n.L = append(n.L, item)
		if !endsWithBlock(item) && !r.is(api.TokLine) && !r.isSign(";") {
			r.end()
		}
	}
	return n
}

// endsWithBlock tells whether an item may stand right ahead of the next one.
func endsWithBlock(item api.Node) bool {
	switch item.K {
	case api.IKeep:
		return false
	case api.IRule, api.IRange:
		return item.L[len(item.L)-1].K == api.SBlock
	}
	return true
}

// item reads an item.
func (r *reader) item() api.Node {
	n := r.node(api.IRule)
	switch {
	case r.isWord("BEGIN", "END"):
		n.K = api.IBegin
		if r.take().S == "END" {
			n.K = api.IEnd
		}
		n.L = []api.Node{r.deeper(r.block)}
	case r.isWord("function"):
		return r.function()
	case r.isWord("persist"):
		r.take()
		n.K = api.IKeep
		n.P = r.names()
	default:
		return r.rule()
	}
	return n
}

// function reads a function.
func (r *reader) function() api.Node {
	n := r.node(api.IFunc)
	r.take()
	n.S = r.need(r.is(api.TokName) || r.is(api.TokCall)).S
	r.within("(", func() {
		if r.is(api.TokName) {
			n.P = r.names()
		}
	}, ")")
	r.lines()
	n.L = []api.Node{r.deeper(r.block)}
	return n
}

// rule reads a pattern, or two of them, or a block, or both.
func (r *reader) rule() api.Node {
	n := r.node(api.IRule)
	pattern, block := "0", "0"
	if !r.isSign("{") {
		pattern = "1"
		n.L = append(n.L, r.expr())
		if r.isSign(",") {
			n.K = api.IRange
			pattern = ""
			r.take()
			r.lines()
			n.L = append(n.L, r.expr())
		}
	}
	if r.isSign("{") {
		block = "1"
		n.L = append(n.L, r.deeper(r.block))
	}
	n.S = pattern + block
	return n
}

// names reads names with commas between.
func (r *reader) names() []string {
	names := []string{r.name()}
	for r.isSign(",") {
		r.take()
		r.lines()
		names = append(names, r.name())
	}
	return names
}

// block reads a block.
func (r *reader) block() api.Node {
	n := r.node(api.SBlock)
	r.sign("{")
	for !r.isSign("}") {
		if r.is(api.TokLine) {
			r.take()
		} else {
			n.L = append(n.L, r.stmt())
		}
	}
	r.take()
	return n
}
