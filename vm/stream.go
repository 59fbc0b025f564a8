package vm

import (
	"strings"

	"auklet/api"
	"auklet/cell"
	"auklet/code"
)

// read lays the next record of a file, whose name it takes, or of the main input; or else what getline tells then. It tells whether there is one.
func (m *machine) read(file int) bool {
	s, told := m.next(file > 0)
	if told != 1 {
		m.push(number(told))
		return false
	}
	if file == 0 {
		m.count()
	}
	m.push(cell.Input(s))
	return true
}

// next is the next record, and what getline tells.
func (m *machine) next(file bool) (string, int) {
	if file {
		s, told, e := m.io.Read(m.popText(), m.text(rs))
		check(e)
		return s, told
	}
	s, ok, e := m.io.Main(m.text(rs))
	check(e)
	if !ok {
		return "", 0
	}
	return s, 1
}

// print takes, if there is a sign, where to, and below it so many values, and prints what is made of them.
func (m *machine) print(sign string, many int, made func(l []api.Cell) string) {
	if sign == "" {
		check(m.io.Print(made(m.pops(many))))
		return
	}
	name := m.popText()
	check(m.io.Write(name, made(m.pops(many)), sign == ">>"))
}

// line is the values as print writes them; without any it is the record.
func (m *machine) line(l []api.Cell) string {
	if len(l) == 0 {
		return m.record.Text() + m.text(ors)
	}
	var b strings.Builder
	for i, c := range l {
		if i > 0 {
			b.WriteString(m.text(ofs))
		}
		b.WriteString(cell.Str(c))
	}
	b.WriteString(m.text(ors))
	return b.String()
}

// formatted is the values as printf writes them.
func formatted(l []api.Cell) string { return must(code.Own("sprintf", l)).S }
