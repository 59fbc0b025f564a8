package syntax

import "auklet/api"

// arguments reads what a function is handed.
func (r *reader) arguments() []api.Node {
	var l []api.Node
	r.within("(", func() {
		if r.operandComes() {
			l = r.list()
		}
	}, ")")
	return l
}

// own reads a function of the language, and what it is handed: only length needs no brackets.
func (r *reader) own() api.Node {
	n := r.node(api.EOwn)
	n.S = r.take().S
	if n.S == "length" && !r.isSign("(") {
		return n
	}
	n.L = r.arguments()
	if !fits(n.S, n.L) {
		panic(fault{n.At, api.ErrForm})
	}
	return n
}

// fits tells whether the language's function of that name can be handed l.
func fits(name string, l []api.Node) bool {
	many := len(l)
	switch name {
	case "length":
		return many <= 1
	case "int", "tolower", "toupper":
		return many == 1
	case "index", "match":
		return many == 2
	case "substr":
		return many == 2 || many == 3
	case "split":
		return (many == 2 || many == 3) && l[1].K == api.EVar
	case "sub", "gsub":
		return many == 2 || many == 3 && canBeSet(l[2])
	case "sprintf":
		return many >= 1
	}
	return many == 0 // sync
}

// canBeSet tells whether n is what can be set.
func canBeSet(n api.Node) bool {
	return n.K == api.EVar || n.K == api.EIndex || n.K == api.EField
}
