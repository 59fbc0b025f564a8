package compile

import (
	"slices"
	"strings"

	"auklet/api"
)

// maker makes the code of a tree whose names are known.
type maker struct {
	writer
	vars, arrays, funcs map[string]int // of each name its place in the table
	within              int            // the function whose block is made; -1: none
	loops               []loop         // in which stands what is made, the innermost last
}

// loop has the labels to which break and continue lead.
type loop struct{ leave, again int }

// build makes the code of a program.
func build(n api.Node, t api.Table) *Image {
	m := &maker{vars: placesOf(t.Vars), arrays: placesOf(t.Arrays), funcs: map[string]int{}, within: -1}
	m.known = map[api.Cell]int{}
	m.Table = t
	m.Funcs = make([]int, len(t.Funcs))
	for i, f := range t.Funcs {
		m.funcs[f.Name] = i
	}
	m.program(n)
	m.link()
	return &Image{m.Code}
}

// placesOf are the places of names in l.
func placesOf(l []string) map[string]int {
	places := map[string]int{}
	for i, name := range l {
		places[name] = i
	}
	return places
}

// part is the i-th part of n. A tree that no text has may lack it: it is 0 then, so that of any tree some code is made.
func part(n api.Node, i int) api.Node {
	if i < 0 || i >= len(n.L) {
		return api.Node{K: api.ENum}
	}
	return n.L[i]
}

// program makes the blocks of BEGIN, the rules, the blocks of END, and the functions, wherever they stand.
func (m *maker) program(n api.Node) {
	if n.K != api.Program {
		n.L = nil // items stand nowhere else
	}
	m.Begin = m.here()
	m.blocks(n.L, api.IBegin)
	m.Rules = m.here()
	m.rules(n.L)
	m.End = m.here()
	m.blocks(n.L, api.IEnd)
	for _, item := range n.L {
		if item.K == api.IFunc {
			m.function(item)
		}
	}
}

// blocks makes the blocks of the items of a kind.
func (m *maker) blocks(items []api.Node, k int) {
	for _, item := range items {
		if item.K == k {
			m.stmt(part(item, 0))
		}
	}
	m.put(Stop)
}

// rules makes the rules, and finds out whether there is anything for which the main input is gone through.
func (m *maker) rules(items []api.Node) {
	for _, item := range items {
		switch item.K {
		case api.IRule:
			m.rule(item)
		case api.IRange:
			m.span(item)
		case api.IEnd:
		default:
			continue
		}
		m.Reads = true
	}
	m.put(Stop)
}

// rule makes a rule.
func (m *maker) rule(n api.Node) {
	end := m.label()
	if strings.HasPrefix(n.S, "1") {
		m.expr(part(n, 0))
		m.put(JumpUnless, end)
	}
	m.action(n)
	m.mark(end)
}

// span makes a range.
func (m *maker) span(n api.Node) {
	in, stays, end := m.label(), m.label(), m.label()
	which := m.Ranges
	m.Ranges++
	m.put(Inside, which, in)
	m.expr(part(n, 0))
	m.put(JumpUnless, end)
	m.put(Enter, which)
	m.mark(in)
	m.expr(part(n, 1))
	m.put(JumpUnless, stays)
	m.put(Leave, which)
	m.mark(stays)
	m.action(n)
	m.mark(end)
}

// action makes what a rule, or a range, does: its block, which is its last part; or, without one, that the record is printed, which is a statement of its own.
func (m *maker) action(n api.Node) {
	if strings.HasSuffix(n.S, "1") {
		m.stmt(part(n, len(n.L)-1))
		return
	}
	m.put(Stmt)
	m.put(Print, m.text(""), 0)
}

// function makes a function, which tells nothing unless it is left by a return.
func (m *maker) function(n api.Node) {
	m.within = m.funcs[n.S]
	m.Funcs[m.within] = m.here()
	m.stmt(part(n, 0))
	m.push(api.Cell{})
	m.put(Return)
	m.within = -1
}

// param is the place of a name among the parameters of the function that is made; -1, if it is none.
func (m *maker) param(name string) int {
	if m.within < 0 {
		return -1
	}
	return slices.Index(m.Table.Funcs[m.within].Params, name)
}

// variable is which place the variable of a name is.
func (m *maker) variable(name string) (kind, which int) {
	if i := m.param(name); i >= 0 {
		return Param, i
	}
	return Var, m.vars[name]
}

// array is which array that of a name is.
func (m *maker) array(name string) (kind, which int) {
	if i := m.param(name); i >= 0 {
		return ParamElem, i
	}
	return Elem, m.arrays[name]
}
