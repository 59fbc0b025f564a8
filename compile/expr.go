package compile

import (
	"strings"

	"auklet/api"
	"auklet/cell"
)

// exprs makes expressions, one behind the other.
func (m *maker) exprs(l []api.Node) {
	for _, n := range l {
		m.expr(n)
	}
}

// expr makes an expression: behind it one value more lies on the stack.
func (m *maker) expr(n api.Node) {
	switch n.K {
	case api.EStr:
		m.push(cell.OfStr(n.S))
	case api.ERegex:
		m.match(record(), n)
	case api.EVar, api.EIndex, api.EField:
		kind, which := m.place(n)
		m.put(Load, kind, which)
	case api.EAssign:
		m.assign(n)
	case api.ECond:
		m.cond(n)
	case api.EOr:
		m.short(n, JumpIf, api.One)
	case api.EAnd:
		m.short(n, JumpUnless, 0)
	case api.EIn:
		m.key(n.L)
		kind, which := m.array(n.S)
		m.put(Has, kind, which)
	case api.EMatch:
		m.match(part(n, 0), part(n, 1))
		if n.S == "!~" {
			m.put(One, m.text("!"))
		}
	case api.ECmp, api.EBin:
		m.both(n)
		m.put(Two, m.text(n.S))
	case api.ECat:
		m.both(n)
		m.put(Join)
	case api.EUn:
		m.expr(part(n, 0))
		m.put(One, m.text(n.S))
	case api.EStep:
		kind, which := m.place(part(n, 0))
		m.put(Step, m.text(n.S), kind, which)
	case api.ECall:
		m.call(n)
	case api.EOwn:
		m.own(n)
	case api.EGet:
		m.get(n)
	default:
		m.push(cell.OfNum(n.N))
	}
}

// record is the expression that is the record.
func record() api.Node {
	return api.Node{K: api.EField, L: []api.Node{{K: api.ENum}}}
}

// both makes the two operands of n.
func (m *maker) both(n api.Node) {
	m.expr(part(n, 0))
	m.expr(part(n, 1))
}

// key makes a subscript.
func (m *maker) key(l []api.Node) {
	m.exprs(l)
	m.put(Key, len(l))
}

// place makes what a place needs, and tells which place it is.
func (m *maker) place(n api.Node) (kind, which int) {
	switch n.K {
	case api.EIndex:
		m.key(n.L)
		return m.array(n.S)
	case api.EField:
		m.expr(part(n, 0))
		return Field, 0
	}
	return m.variable(n.S)
}

// assign makes an assignment: what to set comes ahead of what is set.
func (m *maker) assign(n api.Node) {
	m.expr(part(n, 1))
	kind, which := m.place(part(n, 0))
	m.put(Assign, m.text(n.S), kind, which)
}

// cond makes an expression that decides, and the two others.
func (m *maker) cond(n api.Node) {
	not, end := m.label(), m.label()
	m.expr(part(n, 0))
	m.put(JumpUnless, not)
	m.expr(part(n, 1))
	m.put(Jump, end)
	m.mark(not)
	m.expr(part(n, 2))
	m.mark(end)
}

// short makes two operands, the second of which is passed over where the first one decides: by a jump, and as what number.
func (m *maker) short(n api.Node, jump Op, decided int64) {
	over, end := m.label(), m.label()
	m.expr(part(n, 0))
	m.put(jump, over)
	m.expr(part(n, 1))
	m.put(Truth)
	m.put(Jump, end)
	m.mark(over)
	m.push(cell.OfNum(decided))
	m.mark(end)
}

// match makes a search for a pattern in a text.
func (m *maker) match(text, pattern api.Node) {
	m.expr(text)
	m.pattern(pattern)
	m.put(Match)
}

// pattern makes what stands as a pattern: one that is written as such is not looked for in the record here.
func (m *maker) pattern(n api.Node) {
	if n.K == api.ERegex {
		m.push(cell.OfStr(n.S))
	} else {
		m.expr(n)
	}
	m.put(Pattern)
}

// call makes a call of a function of the program.
func (m *maker) call(n api.Node) {
	f := m.funcs[n.S]
	for i, part := range n.L {
		if m.Table.Funcs[f].Array[i] {
			kind, which := m.array(part.S)
			m.put(Array, kind, which)
		} else {
			m.expr(part)
		}
	}
	m.put(Call, f, len(n.L))
}

// own makes a call of a function of the language.
func (m *maker) own(n api.Node) {
	switch n.S {
	case "match":
		m.expr(part(n, 0))
		m.pattern(part(n, 1))
		m.put(Find)
	case "split":
		m.split(n)
	case "sub":
		m.sub(n, 0)
	case "gsub":
		m.sub(n, 1)
	case "sync":
		m.put(Sync)
	default:
		l := n.L
		if n.S == "length" && len(l) == 0 {
			l = []api.Node{record()}
		}
		m.exprs(l)
		m.put(Own, m.text(n.S), len(l))
	}
}

// split makes a split, by FS if it has no separator.
func (m *maker) split(n api.Node) {
	m.expr(part(n, 0))
	by := 0
	separator := api.Node{K: api.EVar, S: "FS"}
	if len(n.L) > 2 {
		separator = n.L[2]
	}
	if separator.K == api.ERegex {
		by = 1
		m.pattern(separator)
	} else {
		m.expr(separator)
	}
	kind, which := m.array(part(n, 1).S)
	m.put(Split, by, kind, which)
}

// sub makes a sub or a gsub, of the record if it has no third part.
func (m *maker) sub(n api.Node, all int) {
	m.pattern(part(n, 0))
	m.expr(part(n, 1))
	set := record()
	if len(n.L) > 2 {
		set = n.L[2]
	}
	kind, which := m.place(set)
	m.put(Sub, all, kind, which)
}

// get makes a getline: what is read into is asked only when something was read.
func (m *maker) get(n api.Node) {
	end := m.label()
	file := 0
	if strings.HasSuffix(n.S, "f") {
		file = 1
		m.expr(part(n, len(n.L)-1))
	}
	m.put(Read, file, end)
	if strings.HasPrefix(n.S, "v") {
		kind, which := m.place(part(n, 0))
		m.put(Assign, m.text("="), kind, which)
		m.put(Pop)
	} else {
		m.put(Take)
	}
	m.push(cell.OfNum(api.One))
	m.mark(end)
}
