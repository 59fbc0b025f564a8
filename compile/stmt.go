package compile

import "auklet/api"

// stmts makes statements, one behind the other.
func (m *maker) stmts(l []api.Node) {
	for _, n := range l {
		m.stmt(n)
	}
}

// stmt makes a statement.
func (m *maker) stmt(n api.Node) {
	m.put(Stmt)
	switch n.K {
	case api.SExpr:
		m.expr(part(n, 0))
		m.put(Pop)
	case api.SPrint:
		m.print(Print, n)
	case api.SFormat:
		m.print(Format, n)
	case api.SIf:
		m.choice(n)
	case api.SWhile:
		m.while(n)
	case api.SDo:
		m.do(n)
	case api.SFor:
		m.counted(n)
	case api.SEach:
		m.each(n)
	case api.SBlock:
		m.stmts(n.L)
	case api.SNext:
		m.put(Stop) // it stands in rules alone, whose end is this record's
	case api.SExit:
		m.exprs(n.L)
		m.put(Exit, len(n.L))
	case api.SReturn:
		m.back(n)
	case api.SBreak:
		m.put(Jump, m.innermost().leave)
	case api.SGo:
		m.put(Jump, m.innermost().again)
	case api.SDelete:
		m.remove(n)
	}
}

// print makes a print or a printf, whose last part is where to, if there is a sign.
func (m *maker) print(op Op, n api.Node) {
	many := len(n.L)
	if n.S != "" {
		many = max(many-1, 0)
	}
	m.exprs(n.L[:many])
	if n.S != "" {
		m.expr(part(n, many))
	}
	m.put(op, m.text(n.S), many)
}

// choice makes an if, and its else.
func (m *maker) choice(n api.Node) {
	not := m.label()
	m.expr(part(n, 0))
	m.put(JumpUnless, not)
	m.stmt(part(n, 1))
	if len(n.L) < 3 {
		m.mark(not)
		return
	}
	end := m.label()
	m.put(Jump, end)
	m.mark(not)
	m.stmt(part(n, 2))
	m.mark(end)
}

// innermost is the innermost loop.
func (m *maker) innermost() loop { return m.loops[len(m.loops)-1] }

// looped makes a statement that stands in a loop.
func (m *maker) looped(n api.Node, leave, again int) {
	m.loops = append(m.loops, loop{leave, again})
	m.stmt(n)
	m.loops = m.loops[:len(m.loops)-1]
}

// while makes a while.
func (m *maker) while(n api.Node) {
	again, leave := m.label(), m.label()
	m.mark(again)
	m.expr(part(n, 0))
	m.put(JumpUnless, leave)
	m.looped(part(n, 1), leave, again)
	m.put(Jump, again)
	m.mark(leave)
}

// do makes a do, and its while.
func (m *maker) do(n api.Node) {
	begin, again, leave := m.label(), m.label(), m.label()
	m.mark(begin)
	m.looped(part(n, 0), leave, again)
	m.mark(again)
	m.expr(part(n, 1))
	m.put(JumpIf, begin)
	m.mark(leave)
}

// counted makes a for with three parts, each of which may be missing. A continue in its first or its third part leads to its condition.
func (m *maker) counted(n api.Node) {
	first, while, then, body := partsOf(n)
	test, again, leave := m.label(), m.label(), m.label()
	for _, n := range first {
		m.looped(n, leave, test)
	}
	m.mark(test)
	for _, n := range while {
		m.expr(n)
		m.put(JumpUnless, leave)
	}
	m.looped(body, leave, again)
	m.mark(again)
	for _, n := range then {
		m.looped(n, leave, test)
	}
	m.put(Jump, test)
	m.mark(leave)
}

// partsOf are the three parts of a for, each none or one, as S says, and what it does.
func partsOf(n api.Node) (first, while, then []api.Node, body api.Node) {
	next := 0
	perhaps := func(i int) []api.Node {
		if i >= len(n.S) || n.S[i] != '1' {
			return nil
		}
		next++
		return []api.Node{part(n, next-1)}
	}
	first, while, then = perhaps(0), perhaps(1), perhaps(2)
	return first, while, then, part(n, next)
}

// each makes a for through an array.
func (m *maker) each(n api.Node) {
	if len(n.P) != 2 {
		return // it has no names, and goes through nothing
	}
	again, leave := m.label(), m.label()
	kind, which := m.array(n.P[1])
	m.put(Keys, kind, which)
	m.mark(again)
	m.put(More, leave)
	kind, which = m.variable(n.P[0])
	m.put(Assign, m.text("="), kind, which)
	m.put(Pop)
	m.looped(part(n, 0), leave, again)
	m.put(Jump, again)
	m.mark(leave)
	m.put(Done)
}

// back makes a return.
func (m *maker) back(n api.Node) {
	if len(n.L) > 0 {
		m.expr(n.L[0])
	} else {
		m.push(api.Cell{})
	}
	m.put(Return)
}

// remove makes a delete of an element, or of all.
func (m *maker) remove(n api.Node) {
	op := Clear
	if len(n.L) > 0 {
		op = Delete
		m.key(n.L)
	}
	kind, which := m.array(n.S)
	m.put(op, kind, which)
}
