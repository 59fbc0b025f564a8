package resolve

import (
	"slices"

	"auklet/api"
	"auklet/lex"
)

// checkItems is the place of the first function or persist with a fault, and which one it is.
func (p *program) checkItems() (int, api.Errno) {
	functions := 0
	for n := range nodes(p.tree) {
		e := api.OK
		switch n.K {
		case api.IFunc:
			e = p.checkFunction(n, functions)
			functions++
		case api.IKeep:
			e = p.checkKeep(n)
		}
		if e != api.OK {
			return n.At, e
		}
	}
	return 0, api.OK
}

// isFree tells whether a name may be given by a program to something of its own.
func isFree(name string) bool { return lex.Name(name) && Special(name) < 0 }

// checkFunction is what is wrong with a function, ahead of which there are so many.
func (p *program) checkFunction(n api.Node, ahead int) api.Errno {
	switch {
	case p.called[n.S] < ahead:
		return api.ErrThere
	case !isFree(n.S):
		return api.ErrName
	case len(n.P) > api.MaxArgs:
		return api.ErrLong
	}
	for i, name := range n.P {
		if slices.Contains(n.P[:i], name) {
			return api.ErrThere
		}
	}
	for _, name := range n.P {
		if !isFree(name) || name == n.S {
			return api.ErrName
		}
	}
	return api.OK
}

// checkKeep is what is wrong with a persist.
func (p *program) checkKeep(n api.Node) api.Errno {
	for _, name := range n.P {
		if _, called := p.called[name]; called || !isFree(name) {
			return api.ErrName
		}
	}
	return api.OK
}

// checkNodes is the place of the first node with a fault, and which one it is.
func (p *program) checkNodes() (int, api.Errno) {
	for n, at := range nodes(p.tree) {
		e := api.OK
		switch n.K {
		case api.EVar, api.EIndex, api.EIn, api.SDelete, api.SEach:
			e = p.checkNames(n, at)
		case api.ECall:
			if at, e := p.checkCall(n); e != api.OK {
				return at, e
			}
		default:
			e = checkLeaving(n, at)
		}
		if e != api.OK {
			return n.At, e
		}
	}
	return 0, api.OK
}

// checkNames is what is wrong with the names that stand at a node.
func (p *program) checkNames(n api.Node, at place) api.Errno {
	for name, way := range standing(n, at) {
		x := p.whose(name, at)
		_, called := p.called[name]
		switch {
		case called && x.by < 0, !lex.Name(name):
			return api.ErrName
		case p.standsAsArray(way, at):
			if Special(name) >= 0 {
				return api.ErrName
			}
		case p.isArray(x):
			return api.ErrName
		}
	}
	return api.OK
}

// checkCall is what is wrong with a call, and where.
func (p *program) checkCall(n api.Node) (int, api.Errno) {
	f, called := p.called[n.S]
	if !called {
		return n.At, api.ErrNone
	}
	if len(n.L) > len(p.funcs[f].params) {
		return n.At, api.ErrLong
	}
	for i, part := range n.L {
		if part.K != api.EVar && p.handsArray(n.S, i) {
			return part.At, api.ErrName
		}
	}
	return 0, api.OK
}

// checkLeaving is what is wrong with a statement that leaves what it stands in.
func checkLeaving(n api.Node, at place) api.Errno {
	within := true
	switch n.K {
	case api.SBreak, api.SGo:
		within = at.loop
	case api.SReturn:
		within = at.in >= 0
	case api.SNext:
		within = !at.aside && at.in < 0
	}
	if !within {
		return api.ErrState
	}
	return api.OK
}
