package vm

import (
	"auklet/api"
	"auklet/cell"
	"auklet/code"
	"auklet/compile"
)

// place is what can be asked and set.
type place interface {
	load() api.Cell
	set(c api.Cell)
}

// place is a place of code's: what it needs is taken from the stack.
func (m *machine) place(kind, which int) place {
	switch kind {
	case compile.Var:
		if which == nf {
			return width{m}
		}
		return variable{&m.vars[which]}
	case compile.Param:
		return variable{&m.innermost().cells[which]}
	case compile.Field:
		return field{m, must(code.Count(m.pop()))}
	}
	return element{m.array(kind, which), m.popText()}
}

// array is an array of code's.
func (m *machine) array(kind, which int) array {
	if kind == compile.ParamElem {
		return m.innermost().arrays[which]
	}
	return m.arrays[which]
}

// variable is a variable, or a parameter that is one.
type variable struct{ c *api.Cell }

func (v variable) load() api.Cell { return *v.c }

func (v variable) set(c api.Cell) { *v.c = c }

// width is how many fields the record has.
type width struct{ m *machine }

func (w width) load() api.Cell { return number(w.m.record.Many()) }

func (w width) set(c api.Cell) { check(w.m.record.Resize(must(code.Count(c)), w.m.text(ofs))) }

// field is a field of the record, or, of 0, the record.
type field struct {
	m *machine
	i int
}

func (f field) load() api.Cell { return must(f.m.record.Get(f.i)) }

func (f field) set(c api.Cell) {
	if f.i == 0 {
		f.m.take(cell.Str(c))
		return
	}
	check(f.m.record.Set(f.i, cell.Str(c), f.m.text(ofs)))
}

// element is an element of an array, which is there as soon as it is asked.
type element struct {
	array
	key string
}

func (e element) load() api.Cell {
	c, there := e.get(e.key)
	if !there {
		e.put(e.key, c)
	}
	return c
}

func (e element) set(c api.Cell) { e.put(e.key, c) }
