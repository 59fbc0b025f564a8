package vm

import (
	"slices"

	"auklet/api"
	"auklet/cell"
	"auklet/code"
	"auklet/compile"
)

// part runs a part of the program from an instruction on, till it stops, and tells whether that was by an exit.
func (m *machine) part(at int) bool {
	m.at = at
	m.stack, m.handed, m.walks, m.calls = m.stack[:0], m.handed[:0], m.walks[:0], m.calls[:0]
	for {
		ins := m.code.Ins[m.at]
		m.at++
		switch ins.Op {
		case compile.Stop:
			return false
		case compile.Exit:
			m.exit(ins.N[0])
			return true
		}
		if !m.moves(ins) && !m.does(ins) {
			m.tells(ins)
		}
	}
}

// exit sets the status, if there is one.
func (m *machine) exit(many int) {
	for _, c := range m.pops(many) {
		m.status = must(code.Count(c)) & 255 // also of one below 0 what it is modulo 256
	}
}

// push lays a value on the stack.
func (m *machine) push(c api.Cell) { m.stack = append(m.stack, c) }

// pops takes so many values, in the order in which they were laid. They stand till another one is laid.
func (m *machine) pops(many int) []api.Cell {
	left := len(m.stack) - many
	l := m.stack[left:]
	m.stack = m.stack[:left]
	return l
}

// pop takes the value that was laid last.
func (m *machine) pop() api.Cell { return m.pops(1)[0] }

// popText takes the text of the value that was laid last.
func (m *machine) popText() string { return cell.Str(m.pop()) }

// sign is a constant that is a text.
func (m *machine) sign(i int) string { return m.code.Consts[i].S }

// moves does an instruction by which it may go on elsewhere, and tells whether it is one.
func (m *machine) moves(ins compile.Ins) bool {
	to, is := ins.N[0], true
	switch ins.Op {
	case compile.Jump:
	case compile.JumpIf:
		is = cell.Truth(m.pop())
	case compile.JumpUnless:
		is = !cell.Truth(m.pop())
	case compile.More:
		is = !m.more()
	case compile.Inside:
		to, is = ins.N[1], m.ranges[ins.N[0]]
	case compile.Read:
		to, is = ins.N[1], !m.read(ins.N[0])
	case compile.Call:
		m.call(ins.N[0], ins.N[1])
		return true
	case compile.Return:
		m.back()
		return true
	default:
		return false
	}
	if is {
		m.at = to
	}
	return true
}

// does does an instruction that tells nothing, and tells whether it is one.
func (m *machine) does(ins compile.Ins) bool {
	a, b := ins.N[0], ins.N[1]
	switch ins.Op {
	case compile.Stmt:
		m.step()
	case compile.Pop:
		m.pop()
	case compile.Pattern:
		m.pattern(cell.Str(m.stack[len(m.stack)-1]))
	case compile.Take:
		m.take(m.popText())
	case compile.Array:
		m.handed = append(m.handed, m.array(a, b))
	case compile.Keys:
		m.walks = append(m.walks, m.array(a, b).keys())
	case compile.Done:
		m.walks = m.walks[:len(m.walks)-1]
	case compile.Delete:
		m.array(a, b).remove(m.popText())
	case compile.Clear:
		m.array(a, b).clear()
	case compile.Print:
		m.print(m.sign(a), b, m.line)
	case compile.Format:
		m.print(m.sign(a), b, formatted)
	case compile.Enter, compile.Leave:
		m.ranges[a] = ins.Op == compile.Enter
	default:
		return false
	}
	return true
}

// tells does an instruction that tells a value.
func (m *machine) tells(ins compile.Ins) {
	a, b, c := ins.N[0], ins.N[1], ins.N[2]
	var told api.Cell
	switch ins.Op {
	case compile.Push:
		told = m.code.Consts[a]
	case compile.Load:
		told = m.place(a, b).load()
	case compile.Key:
		told = cell.OfStr(must(code.Key(m.pops(a), m.text(subsep))))
	case compile.Has:
		_, there := m.array(a, b).get(m.popText())
		told = code.Bool(there)
	case compile.Assign:
		told = m.assign(m.sign(a), m.place(b, c))
	case compile.Step:
		told = stepped(m.sign(a), m.place(b, c))
	case compile.Two:
		l := m.pops(2)
		told = must(code.Two(m.sign(a), l[0], l[1]))
	case compile.One:
		told = must(code.One(m.sign(a), m.pop()))
	case compile.Join:
		l := m.pops(2)
		told = must(code.Join(l[0], l[1]))
	case compile.Truth:
		told = code.Bool(cell.Truth(m.pop()))
	case compile.Match:
		_, _, found := m.find()
		told = code.Bool(found)
	case compile.Find:
		told = m.where()
	case compile.Split:
		told = m.split(a > 0, m.array(b, c))
	case compile.Sub:
		told = m.sub(a > 0, m.place(b, c))
	case compile.Own:
		told = must(code.Own(m.sign(a), m.pops(b)))
	case compile.Sync:
		told = m.sync()
	}
	m.push(told)
}

// assign sets a place to the value on the stack, or to what the sign makes of what is there and it.
func (m *machine) assign(sign string, p place) api.Cell {
	c := m.pop()
	if sign != "=" {
		c = must(code.Two(sign, p.load(), c))
	}
	p.set(c)
	return c
}

// stepped sets a place to one more or less, and is what the step tells.
func stepped(sign string, p place) api.Cell {
	was := must(code.One("+", p.load()))
	by := "+"
	if sign == "--x" || sign == "x--" {
		by = "-"
	}
	is := must(code.Two(by, was, number(1)))
	p.set(is)
	if sign == "x++" || sign == "x--" {
		return was
	}
	return is
}

// more lays the next key of the array that is gone through, and tells whether there is one.
func (m *machine) more() bool {
	left := &m.walks[len(m.walks)-1]
	if len(*left) == 0 {
		return false
	}
	m.push(cell.OfStr((*left)[0]))
	*left = (*left)[1:]
	return true
}

// innermost is the call that runs.
func (m *machine) innermost() *call { return &m.calls[len(m.calls)-1] }

// call goes into a function with so many parts.
func (m *machine) call(function, many int) {
	m.step()
	if len(m.calls) == api.MaxCalls {
		check(api.ErrCalls)
	}
	is := m.code.Table.Funcs[function].Array
	c := call{m.at, make([]api.Cell, len(is)), make([]array, len(is)), len(m.walks)}
	// From behind, as both stacks have the last ones on top.
	for i, isArray := range slices.Backward(is) {
		switch {
		case isArray && i < many:
			c.arrays[i] = m.handed[len(m.handed)-1]
			m.handed = m.handed[:len(m.handed)-1]
		case isArray:
			c.arrays[i] = newArray()
		case i < many:
			c.cells[i] = m.pop()
		}
	}
	m.calls = append(m.calls, c)
	m.at = m.code.Funcs[function]
}

// back leaves the function; what it tells lies on the stack.
func (m *machine) back() {
	m.at, m.walks = m.innermost().back, m.walks[:m.innermost().walks]
	m.calls = m.calls[:len(m.calls)-1]
}
