package show

import (
	"strings"

	"auklet/api"
)

// stmt is the text of a statement, with what ends it.
func stmt(n api.Node) string {
	switch n.K {
	case api.SIf:
		s := "if (" + expr(part(n, 0)) + ") " + stmt(part(n, 1))
		if len(n.L) > 2 {
			s += " else " + stmt(n.L[2])
		}
		return fitting(s)
	case api.SWhile:
		return fitting("while (" + expr(part(n, 0)) + ") " + stmt(part(n, 1)))
	case api.SDo:
		return fitting("do " + stmt(part(n, 0)) + " while (" + expr(part(n, 1)) + ");")
	case api.SFor:
		return fitting(loop(n))
	case api.SEach:
		return fitting("for (" + strings.Join(n.P, " in ") + ") " + stmt(part(n, 0)))
	case api.SBlock:
		return fitting(block(n))
	}
	return fitting(simple(n) + ";")
}

// loop is the text of a for whose S says which of its first parts are there.
func loop(n api.Node) string {
	if len(n.S) != 3 {
		panic(api.ErrArg)
	}
	next := 0
	perhaps := func(is byte, write func(n api.Node) string) string {
		if is == '0' {
			return ""
		}
		next++
		return write(part(n, next-1))
	}
	s := "for (" + perhaps(n.S[0], simple)
	s += "; " + perhaps(n.S[1], expr)
	s += "; " + perhaps(n.S[2], simple)
	return s + ") " + stmt(part(n, next))
}

// block is the text of a block.
func block(n api.Node) string {
	var s strings.Builder
	s.WriteByte('{')
	for _, part := range n.L {
		s.WriteByte(' ')
		s.WriteString(stmt(part))
	}
	s.WriteString(" }")
	return s.String()
}

// simple is the text of a statement that has no others within, without what ends it.
func simple(n api.Node) string {
	switch n.K {
	case api.SExpr:
		return expr(part(n, 0))
	case api.SPrint:
		return printed("print", n)
	case api.SFormat:
		return printed("printf", n)
	case api.SNext:
		return "next"
	case api.SExit:
		return behind("exit", listed(n.L, expr))
	case api.SReturn:
		return behind("return", listed(n.L, expr))
	case api.SBreak:
		return "break"
	case api.SGo:
		return "continue"
	case api.SDelete:
		if len(n.L) > 0 {
			return "delete " + n.S + "[" + listed(n.L, expr) + "]"
		}
		return "delete " + n.S
	}
	panic(api.ErrArg)
}

// printed is the text of a print or a printf, whose last part is where to, if S says so.
func printed(word string, n api.Node) string {
	if n.S == "" {
		return behind(word, listed(n.L, operand))
	}
	last := len(n.L) - 1
	if last < 0 {
		panic(api.ErrArg)
	}
	return behind(word, listed(n.L[:last], operand)) + " " + n.S + " " + operand(n.L[last])
}

// behind is a word and, behind it, a text, unless that is empty.
func behind(word, text string) string {
	if text == "" {
		return word
	}
	return word + " " + text
}
