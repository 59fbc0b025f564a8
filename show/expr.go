package show

import (
	"strings"

	"auklet/api"
	"auklet/dec"
	"auklet/lex"
)

// expr is the text of an expression.
func expr(n api.Node) string {
	switch n.K {
	case api.ENum:
		return dec.Show(n.N)
	case api.EStr:
		return fitting(lex.Quote(n.S))
	case api.ERegex:
		return fitting("/" + strings.ReplaceAll(n.S, "/", `\/`) + "/")
	case api.EVar:
		return fitting(n.S)
	case api.EIndex:
		return fitting(n.S + "[" + listed(n.L, expr) + "]")
	case api.ECall, api.EOwn:
		return fitting(n.S + "(" + listed(n.L, expr) + ")")
	}
	return fitting(signed(n))
}

// signed is the text of an expression that is of operands and signs.
func signed(n api.Node) string {
	switch n.K {
	case api.EField:
		return "$" + operand(part(n, 0))
	case api.EAssign:
		return expr(part(n, 0)) + " " + strings.TrimSuffix(n.S, "=") + "= " + operand(part(n, 1))
	case api.ECond:
		return joined(n, " ? ", " : ")
	case api.EOr:
		return joined(n, " || ")
	case api.EAnd:
		return joined(n, " && ")
	case api.EMatch, api.ECmp, api.EBin:
		return joined(n, " "+n.S+" ")
	case api.ECat:
		return joined(n, " ")
	case api.EUn:
		return n.S + operand(part(n, 0))
	case api.EStep:
		return stepped(n)
	case api.EIn:
		return asked(n) + " in " + n.S
	case api.EGet:
		return got(n)
	}
	panic(api.ErrArg)
}

// operand is the text of an expression as an operand: in brackets, unless it can stand anywhere. (A pattern can't: behind another operand a / divides.)
func operand(n api.Node) string {
	switch n.K {
	case api.ENum, api.EStr, api.EVar, api.EIndex, api.ECall, api.EOwn, api.EField:
		return expr(n)
	}
	return "(" + expr(n) + ")"
}

// joined are the operands of n, with one of between behind each but the last.
func joined(n api.Node, between ...string) string {
	s := operand(part(n, 0))
	for i, sign := range between {
		s += sign + operand(part(n, i+1))
	}
	return s
}

// listed are the texts of l as they are written, with commas between.
func listed(l []api.Node, write func(n api.Node) string) string {
	var texts []string
	for _, n := range l {
		texts = append(texts, write(n))
	}
	return strings.Join(texts, ", ")
}

// stepped is the text of a step, whose sign stands ahead or behind.
func stepped(n api.Node) string {
	text := expr(part(n, 0))
	if sign, behind := strings.CutPrefix(n.S, "x"); behind {
		return text + sign
	}
	return strings.TrimSuffix(n.S, "x") + text
}

// asked is the text of what an array is asked for.
func asked(n api.Node) string {
	if len(n.L) > 1 {
		return "(" + listed(n.L, expr) + ")"
	}
	return operand(part(n, 0))
}

// got is the text of a getline.
func got(n api.Node) string {
	s, i := "getline", 0
	if strings.HasPrefix(n.S, "v") {
		s += " " + expr(part(n, i))
		i++
	}
	if strings.HasSuffix(n.S, "f") {
		s += " < " + operand(part(n, i))
	}
	return s
}
