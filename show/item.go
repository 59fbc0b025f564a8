package show

import (
	"strings"

	"auklet/api"
)

// program is the text of a program: a line for each item.
func program(n api.Node) string {
	if n.K != api.Program {
		panic(api.ErrArg)
	}
	var s strings.Builder
	for _, part := range n.L {
		s.WriteString(item(part))
		s.WriteByte('\n')
	}
	return s.String()
}

// item is the text of an item.
func item(n api.Node) string {
	switch n.K {
	case api.IBegin:
		return "BEGIN " + stmt(part(n, 0))
	case api.IEnd:
		return "END " + stmt(part(n, 0))
	case api.IFunc:
		return "function " + n.S + "(" + strings.Join(n.P, ", ") + ") " + stmt(part(n, 0))
	case api.IKeep:
		return "persist " + strings.Join(n.P, ", ")
	case api.IRule, api.IRange:
		return rule(n)
	}
	panic(api.ErrArg)
}

// rule is the text of a rule or a range: S says whether its last part is a block, the others are patterns.
func rule(n api.Node) string {
	if !strings.HasSuffix(n.S, "1") {
		return listed(n.L, expr)
	}
	last := len(n.L) - 1
	if last < 0 {
		panic(api.ErrArg)
	}
	patterns := listed(n.L[:last], expr)
	if patterns == "" {
		return stmt(n.L[last])
	}
	return patterns + " " + stmt(n.L[last])
}
