package compile

import (
	"strconv"
	"strings"

	"auklet/api"
	"auklet/dec"
)

// List is the code as a text: what is kept, and then, part by part, each instruction on a line of its own.
func (m *Image) List() string {
	if !m.Check() {
		return "" // of a tree that no text has
	}
	c := &m.code
	var b strings.Builder
	for i, name := range c.Table.Arrays {
		if c.Table.Keep[i] {
			b.WriteString("persist " + name + "\n")
		}
	}
	for i, ins := range c.Ins {
		b.WriteString(c.heading(i))
		b.WriteString(strconv.Itoa(i) + " " + c.line(ins, c.functionAt(i)) + "\n")
	}
	return b.String()
}

// heading is the line ahead of the i-th instruction, if a part of the program begins with it.
func (c *Code) heading(i int) string {
	switch i {
	case c.Begin:
		return "BEGIN\n"
	case c.Rules:
		if c.Reads {
			return "records\n"
		}
		return "no records\n"
	case c.End:
		return "END\n"
	}
	f := c.functionAt(i)
	if f < 0 || c.Funcs[f] != i {
		return ""
	}
	var params []string
	for p := range c.Table.Funcs[f].Params {
		kind := Param
		if c.Table.Funcs[f].Array[p] {
			kind = ParamElem
		}
		params = append(params, c.name(kind, p, f))
	}
	return "function " + c.Table.Funcs[f].Name + "(" + strings.Join(params, ", ") + ")\n"
}

// line is an instruction, in a function, as a text: its name, and what its numbers stand for.
func (c *Code) line(ins Ins, in int) string {
	shape := shapes[ins.Op]
	words := []string{shape.name}
	for k, role := range shape.roles {
		n := ins.N[k]
		switch role {
		case amount, target, span:
			words = append(words, strconv.Itoa(n))
		case constant:
			words = append(words, shown(c.Consts[n]))
		case function:
			words = append(words, c.Table.Funcs[n].Name)
		case place, array:
			words = append(words, c.name(n, ins.N[k+1], in))
		}
	}
	return strings.Join(words, " ")
}

// shown is a constant as a text.
func shown(v api.Cell) string {
	switch v.K {
	case api.Number:
		return dec.Show(v.N)
	case api.Text:
		return strconv.Quote(v.S)
	}
	return "nothing"
}

// name is a place, in a function, as a text: that of an array stands for the array, too.
func (c *Code) name(kind, which, in int) string {
	switch kind {
	case Var:
		return c.Table.Vars[which]
	case Param:
		return c.Table.Funcs[in].Params[which]
	case Elem:
		return c.Table.Arrays[which] + "[]"
	case ParamElem:
		return c.Table.Funcs[in].Params[which] + "[]"
	}
	return "$"
}
