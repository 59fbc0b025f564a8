package syntax_test

import (
	"math/rand"
	"reflect"
	"strings"
	"testing"

	"auklet/api"
	"auklet/lex"
	"auklet/samples"
	"auklet/syntax"
)

// The levels of expressions: an operand has to be of a level, or of a higher one, or stands in brackets.
const (
	lowest = iota // EXPR
	ors
	ands
	ins
	matches
	compared
	joined
	sums
	terms
	signed
	stepped
	primaries
	places
)

// writer writes random trees as texts, and says of each of their parts where it is.
type writer struct {
	pick func(n int) int
	s    strings.Builder
	to   bool // whether > outside of brackets would say where a print writes to
}

// put writes s, with a blank ahead now and then where it is needed or not, and is the place of s.
func (w *writer) put(s string) int {
	last := " " + w.s.String()
	if w.pick(4) > 0 || !strings.HasSuffix(last, "(") && !strings.HasSuffix(last, ")") && !strings.HasSuffix(last, "}") {
		w.s.WriteString([]string{" ", " ", " ", "\t", "  ", "\\\n", " \\\n\t"}[w.pick(7)])
	}
	return w.right(s)
}

// right writes s right behind what is written.
func (w *writer) right(s string) int {
	w.s.WriteString(s)
	return w.s.Len() - len(s)
}

// lines writes line feeds, where any number of them may stand.
func (w *writer) lines() {
	for w.pick(6) == 0 {
		w.s.WriteString([]string{"\n", " \n", " # x \" (\n"}[w.pick(3)])
	}
}

// name is one of few names.
func (w *writer) name() string { return []string{"a", "b", "c1", "_x"}[w.pick(4)] }

// levelOf is the level of a kind of expressions.
func levelOf(n api.Node) int {
	switch n.K {
	case api.EAssign, api.ECond, api.EGet:
		return lowest // getline would take what stands behind it
	case api.EOr:
		return ors
	case api.EAnd:
		return ands
	case api.EIn:
		return ins
	case api.EMatch, api.ERegex:
		return matches // behind a pattern / begins one
	case api.ECmp:
		return compared
	case api.ECat:
		return joined
	case api.EBin:
		if n.S == "+" || n.S == "-" {
			return sums
		}
		return terms
	case api.EUn:
		return signed
	case api.EStep:
		return stepped
	case api.EVar, api.EIndex, api.EField:
		return places
	}
	return primaries
}

// expr writes n where an operand of the level has to stand, and sets its places.
func (w *writer) expr(n *api.Node, level int) {
	if levelOf(*n) < level || level < places && w.pick(6) == 0 || w.to && n.K == api.ECmp && n.S == ">" {
		w.brackets(n)
		return
	}
	w.bare(n)
}

// brackets writes n in brackets.
func (w *writer) brackets(n *api.Node) {
	to := w.to
	w.to = false
	at := w.put("(")
	w.expr(n, lowest)
	w.put(")")
	w.to = to
	n.At = at
}

// list writes l with commas between, in brackets, the first of which is written right behind what is ahead.
func (w *writer) list(l []api.Node, open, closing string) {
	to := w.to
	w.to = false
	w.right(open)
	w.commas(l)
	w.put(closing)
	w.to = to
}

// commas writes l with commas between.
func (w *writer) commas(l []api.Node) {
	for i := range l {
		if i > 0 {
			w.put(",")
			w.lines()
		}
		w.expr(&l[i], lowest)
	}
}

// pair writes two operands with a sign between, perhaps with line feeds behind it.
func (w *writer) pair(n *api.Node, left int, sign string, right int) {
	w.expr(&n.L[0], left)
	w.put(sign)
	if sign == "||" || sign == "&&" {
		w.lines()
	}
	w.expr(&n.L[1], right)
	n.At = n.L[0].At
}

// bare writes n without brackets.
func (w *writer) bare(n *api.Node) {
	switch n.K {
	case api.ENum:
		n.At = w.put([]string{"0", "1", "1.5"}[n.N/500000/2+n.N/500000%2])
	case api.EStr:
		n.At = w.put(lex.Quote(n.S))
	case api.ERegex:
		if words, _, _ := lex.Words(w.s.String()); len(words) > 1 && words[len(words)-2].S == ")" {
			w.brackets(n) // a / behind ) divides
			return
		}
		n.At = w.put("/" + n.S + "/")
	case api.EVar:
		n.At = w.put(n.S)
	case api.EIndex:
		n.At = w.put(n.S)
		w.list(n.L, "[", "]")
	case api.EField:
		n.At = w.put("$")
		if n.L[0].K == api.EStep && n.L[0].S[0] != 'x' && w.pick(2) == 0 {
			w.bare(&n.L[0])
		} else {
			w.expr(&n.L[0], primaries)
		}
	case api.ECall, api.EOwn:
		n.At = w.put(n.S)
		w.list(n.L, "(", ")")
	case api.EUn:
		n.At = w.put(n.S)
		w.expr(&n.L[0], signed)
	case api.EStep:
		if n.S[0] == 'x' {
			w.bare(&n.L[0])
			w.put(n.S[1:])
			n.At = n.L[0].At
		} else {
			n.At = w.put(n.S[:2])
			w.bare(&n.L[0])
		}
	default:
		w.joined(n)
	}
}

// joined writes n, which is of more than one operand.
func (w *writer) joined(n *api.Node) {
	switch n.K {
	case api.EAssign:
		w.bare(&n.L[0])
		w.put(strings.TrimSuffix(n.S, "=") + "=")
		w.lines()
		w.expr(&n.L[1], lowest)
		n.At = n.L[0].At
	case api.ECond:
		w.expr(&n.L[0], ors)
		w.put("?")
		w.lines()
		w.expr(&n.L[1], lowest)
		w.put(":")
		w.lines()
		w.expr(&n.L[2], lowest)
		n.At = n.L[0].At
	case api.EOr:
		w.pair(n, ors, "||", ands)
	case api.EAnd:
		w.pair(n, ands, "&&", ins)
	case api.EIn:
		w.has(n)
	case api.EMatch:
		w.pair(n, matches, n.S, compared)
	case api.ECmp:
		w.pair(n, joined, n.S, joined)
	case api.EBin:
		if levelOf(*n) == sums {
			w.pair(n, sums, n.S, terms)
		} else {
			w.pair(n, terms, n.S, signed)
		}
	case api.ECat:
		w.expr(&n.L[0], joined)
		if k := first(n.L[1]).K; k == api.EUn || k == api.EStep || levelOf(n.L[1]) < sums {
			w.brackets(&n.L[1]) // a sign ahead would be taken with what is ahead of it
		} else {
			w.expr(&n.L[1], sums)
		}
		n.At = n.L[0].At
	case api.EGet:
		n.At = w.put("getline")
		for i := range n.L {
			if n.S[i] == 'f' {
				w.put("<")
				w.expr(&n.L[i], primaries)
			} else {
				w.bare(&n.L[i])
			}
		}
	}
}

// first is the part of n with which its text begins, if it stands in no brackets.
func first(n api.Node) api.Node {
	for n.K == api.EBin {
		n = n.L[0]
	}
	return n
}

// has writes what is asked of an array.
func (w *writer) has(n *api.Node) {
	if len(n.L) == 1 {
		w.expr(&n.L[0], ins)
		n.At = n.L[0].At
	} else {
		n.At = w.put(" (") + 1
		to := w.to
		w.to = false
		w.commas(n.L)
		w.put(")")
		w.to = to
	}
	w.put("in")
	w.put(n.S)
}

// place is a random tree of what can be set.
func (w *writer) place(deep int) api.Node {
	switch w.pick(4) {
	case 0:
		return api.Node{K: api.EIndex, S: w.name(), L: w.some(1, deep)}
	case 1:
		return api.Node{K: api.EField, L: []api.Node{w.tree(deep)}}
	}
	return api.Node{K: api.EVar, S: w.name()}
}

// some are a few random trees, least of them at least.
func (w *writer) some(least, deep int) []api.Node {
	var l []api.Node
	for range least + w.pick(3) {
		l = append(l, w.tree(deep))
	}
	return l
}

// one is one of the words of s.
func (w *writer) one(s string) string {
	l := strings.Fields(s)
	return l[w.pick(len(l))]
}

// tree is a random tree of an expression.
func (w *writer) tree(deep int) api.Node {
	if deep <= 0 {
		return []api.Node{{K: api.ENum, N: api.One * 3 / 2}, {K: api.ENum}, {K: api.EStr, S: "s \"/"}, {K: api.ERegex, S: "r[/]"}, {K: api.EVar, S: w.name()}, {K: api.EVar, S: w.name()}}[w.pick(6)]
	}
	deep -= 1 + w.pick(2)
	two := func(k int, signs string) api.Node {
		return api.Node{K: k, S: w.one(signs), L: []api.Node{w.tree(deep), w.tree(deep)}}
	}
	bare := func(k int) api.Node {
		return api.Node{K: k, L: []api.Node{w.tree(deep), w.tree(deep)}}
	}
	switch w.pick(17) {
	case 0:
		return w.place(deep)
	case 1:
		return api.Node{K: api.EAssign, S: w.one("= + - * / %"), L: []api.Node{w.place(deep), w.tree(deep)}}
	case 2:
		return api.Node{K: api.ECond, L: []api.Node{w.tree(deep), w.tree(deep), w.tree(deep)}}
	case 3:
		return bare(api.EOr)
	case 4:
		return bare(api.EAnd)
	case 5:
		return api.Node{K: api.EIn, S: w.name(), L: w.some(1, deep)}
	case 6:
		return two(api.EMatch, "~ !~")
	case 7, 8:
		return two(api.ECmp, "< <= == != > > > >=")
	case 9, 10:
		return bare(api.ECat)
	case 11:
		return two(api.EBin, "+ - * / %")
	case 12:
		return api.Node{K: api.EUn, S: w.one("! - +"), L: []api.Node{w.tree(deep)}}
	case 13:
		return api.Node{K: api.EStep, S: w.one("++x --x x++ x--"), L: []api.Node{w.place(deep)}}
	case 14:
		return api.Node{K: api.ECall, S: w.name(), L: w.some(0, deep)}
	case 15:
		return w.own(deep)
	}
	return w.get(deep)
}

// own is a random tree of a function of the language.
func (w *writer) own(deep int) api.Node {
	n := api.Node{K: api.EOwn, S: w.one("length int index substr split gsub sprintf sync")}
	least := map[string]int{"int": 1, "index": 2, "substr": 2 + w.pick(2), "split": 2 + w.pick(2), "gsub": 2 + w.pick(2), "sprintf": 1 + w.pick(4), "length": w.pick(2)}
	for range least[n.S] {
		n.L = append(n.L, w.tree(deep))
	}
	if n.S == "split" {
		n.L[1] = api.Node{K: api.EVar, S: w.name()}
	}
	if n.S == "gsub" && len(n.L) == 3 {
		n.L[2] = w.place(deep)
	}
	return n
}

// get is a random tree of a getline.
func (w *writer) get(deep int) api.Node {
	n := api.Node{K: api.EGet}
	if w.pick(2) == 0 {
		n.S = "v"
		n.L = append(n.L, w.place(deep))
	}
	if w.pick(2) == 0 {
		n.S += "f"
		n.L = append(n.L, w.tree(deep))
	}
	return n
}

// P12.1, P12.2: random expressions, written with no more brackets than they need, and with more, are read as they are, each part where it is.
func TestTrees(t *testing.T) {
	r := rand.New(rand.NewSource(1202))
	for range 20000 {
		w := &writer{pick: r.Intn}
		n := w.tree(1 + r.Intn(5))
		w.expr(&n, lowest)
		s := w.s.String()
		if got, at, e := syntax.Expr(s); told(got, true) != told(n, true) || at != 0 || e != api.OK {
			t.Fatalf("Expr(%q): %s, %d, %v, not %s", s, told(got, true), at, e, told(n, true))
		}
	}
}

// stmt is a random tree of a statement.
func (w *writer) stmt(deep int) api.Node {
	if deep > 0 {
		deep -= 1 + w.pick(2)
		switch w.pick(7) {
		case 0, 1:
			return w.choice(deep)
		case 2:
			return api.Node{K: api.SWhile, L: []api.Node{w.tree(1), w.stmt(deep)}}
		case 3:
			return api.Node{K: api.SDo, L: []api.Node{w.stmt(deep), w.tree(1)}}
		case 4:
			return w.loop(deep)
		case 5:
			return api.Node{K: api.SEach, P: []string{w.name(), w.name()}, L: []api.Node{w.stmt(deep)}}
		case 6:
			return w.block(deep)
		}
	}
	return w.simple()
}

// block is a random tree of a block.
func (w *writer) block(deep int) api.Node {
	n := api.Node{K: api.SBlock}
	for range w.pick(4) {
		n.L = append(n.L, w.stmt(deep))
	}
	return n
}

// isOpen tells whether an else behind n would be n's.
func isOpen(n api.Node) bool {
	switch n.K {
	case api.SIf:
		return len(n.L) == 2 || isOpen(n.L[2])
	case api.SWhile, api.SFor, api.SEach:
		return isOpen(n.L[len(n.L)-1])
	}
	return false
}

// choice is a random tree of an if.
func (w *writer) choice(deep int) api.Node {
	n := api.Node{K: api.SIf, L: []api.Node{w.tree(1), w.stmt(deep)}}
	if w.pick(2) == 0 && !isOpen(n.L[1]) {
		n.L = append(n.L, w.stmt(deep))
	}
	return n
}

// loop is a random tree of a for.
func (w *writer) loop(deep int) api.Node {
	n := api.Node{K: api.SFor}
	for i := range 3 {
		if w.pick(2) == 0 {
			n.S += "0"
			continue
		}
		n.S += "1"
		if i == 1 {
			n.L = append(n.L, w.tree(1))
		} else {
			n.L = append(n.L, w.simple())
		}
	}
	n.L = append(n.L, w.stmt(deep))
	return n
}

// simple is a random tree of a statement that has no others within.
func (w *writer) simple() api.Node {
	k := []int{api.SExpr, api.SExpr, api.SPrint, api.SPrint, api.SFormat, api.SNext, api.SExit, api.SReturn, api.SBreak, api.SGo, api.SDelete}[w.pick(11)]
	n := api.Node{K: k}
	switch k {
	case api.SExpr:
		n.L = []api.Node{w.tree(2)}
	case api.SExit, api.SReturn:
		if w.pick(2) == 0 {
			n.L = []api.Node{w.tree(1)}
		}
	case api.SDelete:
		n.S = w.name()
		if w.pick(2) == 0 {
			n.L = w.some(1, 1)
		}
	case api.SPrint, api.SFormat:
		n.L = w.some(k-api.SPrint, 2)
		if w.pick(2) == 0 {
			n.S = w.one("> >>")
			n.L = append(n.L, w.tree(2))
		}
	}
	return n
}

// write writes a statement, and what ends it, unless it is part of a for.
func (w *writer) write(n *api.Node, part bool) {
	switch n.K {
	case api.SIf, api.SWhile, api.SFor, api.SEach, api.SDo, api.SBlock:
		w.nested(n)
		return
	case api.SExpr:
		w.expr(&n.L[0], lowest)
		n.At = n.L[0].At
	case api.SPrint, api.SFormat:
		w.print(n)
	case api.SDelete:
		n.At = w.put("delete")
		w.put(n.S)
		if n.L != nil {
			w.list(n.L, "[", "]")
		}
	default:
		n.At = w.put(map[int]string{api.SNext: "next", api.SExit: "exit", api.SReturn: "return", api.SBreak: "break", api.SGo: "continue"}[n.K])
		w.commas(n.L)
	}
	if !part {
		w.stop()
	}
}

// stop writes what ends a statement.
func (w *writer) stop() { w.s.WriteString([]string{";", "\n", " ;", " # }\n"}[w.pick(4)]) }

// print writes a print, with brackets around all that is printed or not.
func (w *writer) print(n *api.Node) {
	n.At = w.put([]string{"print", "printf"}[n.K-api.SPrint])
	l := n.L
	if n.S != "" {
		l = l[:len(l)-1]
	}
	if len(l) > 1 && w.pick(2) == 0 {
		w.list(l, "(", ")")
	} else {
		w.to = true
		w.commas(l)
		w.to = false
	}
	if n.S != "" {
		w.put(n.S)
		w.expr(&n.L[len(n.L)-1], joined)
	}
}

// asked writes what a statement asks.
func (w *writer) asked(n *api.Node) {
	w.put("(")
	w.expr(n, lowest)
	w.put(")")
}

// body writes a statement of another one.
func (w *writer) body(n *api.Node) {
	w.lines()
	w.write(n, false)
}

// nested writes a statement that may have others within.
func (w *writer) nested(n *api.Node) {
	switch n.K {
	case api.SBlock:
		if n.L == nil && w.pick(2) == 0 {
			n.At = w.put(";")
			return
		}
		w.writeBlock(n)
	case api.SIf:
		n.At = w.put("if")
		w.asked(&n.L[0])
		w.body(&n.L[1])
		if len(n.L) == 3 {
			w.lines()
			w.put("else")
			w.body(&n.L[2])
		}
	case api.SWhile:
		n.At = w.put("while")
		w.asked(&n.L[0])
		w.body(&n.L[1])
	case api.SDo:
		n.At = w.put("do")
		w.body(&n.L[0])
		w.lines()
		w.put("while")
		w.asked(&n.L[1])
		w.stop()
	case api.SEach:
		n.At = w.put("for")
		for _, s := range []string{"(", n.P[0], "in", n.P[1], ")"} {
			w.put(s)
		}
		w.body(&n.L[0])
	case api.SFor:
		n.At = w.put("for")
		w.put("(")
		l := n.L
		for i, is := range n.S {
			if is == '1' && i == 1 {
				w.expr(&l[0], lowest)
			} else if is == '1' {
				w.write(&l[0], true)
			}
			if is == '1' {
				l = l[1:]
			}
			w.put([]string{";", ";", ")"}[i])
			w.lines()
		}
		w.body(&l[0])
	}
}

// writeBlock writes a block.
func (w *writer) writeBlock(n *api.Node) {
	n.At = w.put("{")
	w.lines()
	for i := range n.L {
		w.write(&n.L[i], false)
		w.lines()
	}
	w.put("}")
}

// item is a random tree of an item.
func (w *writer) item() api.Node {
	block := w.block(4)
	switch w.pick(6) {
	case 0:
		return api.Node{K: api.IBegin, L: []api.Node{block}}
	case 1:
		return api.Node{K: api.IEnd, L: []api.Node{block}}
	case 2:
		return api.Node{K: api.IFunc, S: w.name(), P: []string{w.name(), w.name(), w.name()}[:w.pick(4)], L: []api.Node{block}}
	case 3:
		return api.Node{K: api.IKeep, P: []string{w.name(), w.name(), w.name()}[:1+w.pick(3)]}
	case 4:
		if w.pick(2) == 0 {
			return api.Node{K: api.IRange, S: "0", L: []api.Node{w.tree(2), w.tree(2)}}
		}
		return api.Node{K: api.IRange, S: "1", L: []api.Node{w.tree(2), w.tree(2), block}}
	}
	return []api.Node{{K: api.IRule, S: "10", L: []api.Node{w.tree(3)}}, {K: api.IRule, S: "11", L: []api.Node{w.tree(3), block}}, {K: api.IRule, S: "01", L: []api.Node{block}}}[w.pick(3)]
}

// names writes names with commas between.
func (w *writer) names(l []string) {
	for i, s := range l {
		if i > 0 {
			w.put(",")
			w.lines()
		}
		w.put(s)
	}
}

// writeItem writes an item.
func (w *writer) writeItem(n *api.Node) {
	switch n.K {
	case api.IBegin:
		n.At = w.put("BEGIN")
	case api.IEnd:
		n.At = w.put("END")
	case api.IFunc:
		n.At = w.put("function")
		w.put(n.S)
		w.put("(")
		w.names(n.P)
		w.put(")")
		w.lines()
	case api.IKeep:
		n.At = w.put("persist")
		w.names(n.P)
	default:
		w.writeRule(n)
		return
	}
	if n.L != nil {
		w.writeBlock(&n.L[0])
	} else {
		w.stop()
	}
}

// writeRule writes a rule, or a range.
func (w *writer) writeRule(n *api.Node) {
	l := n.L
	block := strings.HasSuffix(n.S, "1")
	if block {
		l = l[:len(l)-1]
	}
	w.commas(l)
	if block {
		w.writeBlock(&n.L[len(n.L)-1])
	} else {
		w.stop()
	}
	n.At = n.L[0].At
}

// program is a random program and its tree.
func (w *writer) program() (string, api.Node) {
	n := api.Node{K: api.Program}
	for range w.pick(5) {
		item := w.item()
		w.writeItem(&item)
		n.L = append(n.L, item)
		w.lines()
	}
	s := w.s.String()
	words, _, _ := lex.Words(s)
	if words != nil {
		n.At = words[0].At
	}
	return s, n
}

// P12.1, P12.2: random programs are read as they are, each part where it is.
func TestPrograms(t *testing.T) {
	r := rand.New(rand.NewSource(1203))
	for range 4000 {
		w := &writer{pick: r.Intn}
		s, n := w.program()
		if len(s) > api.MaxProgram {
			continue
		}
		if got, at, e := syntax.Parse(s); told(got, true) != told(n, true) || at != 0 || e != api.OK {
			t.Fatalf("Parse(%q): %.300s, %d, %v, not %.300s: %q", s, told(got, true), at, e, told(n, true), s[max(at-80, 0):min(at+20, len(s))])
		}
	}
}

// placed is n with each place by which number of token stands there.
func placed(n api.Node, number map[int]int) api.Node {
	n.At = number[n.At]
	l := n.L
	n.L = nil
	for _, part := range l {
		n.L = append(n.L, placed(part, number))
	}
	return n
}

// numbers are the numbers of the tokens, by their places.
func numbers(words []api.Token) map[int]int {
	number := map[int]int{}
	for i, w := range words {
		number[w.At] = i
	}
	return number
}

// respaced is s with other blanks and remarks ahead of its tokens.
func respaced(pick func(n int) int, s string, words []api.Token) string {
	var made strings.Builder
	for i, w := range words {
		if i == 0 || words[i-1].K != api.TokCall {
			made.WriteString([]string{" ", "\t", "\\\n", "  \\\n\t"}[pick(4)])
		}
		if (w.K == api.TokLine || w.K == api.TokEnd) && pick(2) == 0 {
			made.WriteString("# ( \" /\\")
		}
		if w.K != api.TokEnd {
			raw := s[w.At:words[i+1].At]
			made.WriteString(raw[:length(w, raw)])
		}
	}
	return made.String()
}

// length is how many bytes the token has with which raw begins: texts and patterns up to their last sign.
func length(w api.Token, raw string) int {
	if w.K != api.TokStr && w.K != api.TokRegex {
		return len(w.S)
	}
	for n := len(raw); ; n-- {
		ahead := ""
		if w.K == api.TokRegex {
			ahead = "~"
		}
		if l, _, e := lex.Words(ahead + raw[:n]); e == api.OK && len(l) == 2+len(ahead) && raw[n-1] == raw[0] {
			return n
		}
	}
}

// P12.5: blanks and remarks ahead of tokens change places alone: those of errors, too.
func TestBlanks(t *testing.T) {
	r := rand.New(rand.NewSource(1205))
	l := split()
	for i := range 3000 {
		w := &writer{pick: r.Intn}
		s, _ := w.program()
		if i%2 == 0 {
			s = samples.Joined(1, l...)[1+r.Intn(len(l))] + s
		}
		words, _, e := lex.Words(s)
		if e != api.OK || len(s) > 2000 {
			continue
		}
		other := respaced(r.Intn, s, words)
		others, _, e := lex.Words(other)
		if e != api.OK || len(others) != len(words) {
			t.Fatalf("%q, %q", s, other)
		}
		n, at, e := syntax.Parse(s)
		n2, at2, e2 := syntax.Parse(other)
		before, behind := numbers(words), numbers(others)
		if e != e2 || e != api.OK && before[at] != behind[at2] || !reflect.DeepEqual(placed(n, before), placed(n2, behind)) && e == api.OK {
			t.Fatalf("%q: %d, %v; %q: %d, %v", s, at, e, other, at2, e2)
		}
	}
}

// P12.3: any bytes, and any tokens, are read to an end, and what can't be read has no tree.
func TestAnything(t *testing.T) {
	r := rand.New(rand.NewSource(1206))
	l := split()
	for range 30000 {
		s := samples.Bytes(r.Intn, "{}()[];,$+-!~<>=ab1\"/ \n\\#?:", 30)
		if r.Intn(2) == 0 {
			s = ""
			for range r.Intn(20) {
				s += l[r.Intn(len(l))] + " "
			}
		}
		for _, read := range []func(s string) (api.Node, int, api.Errno){syntax.Parse, syntax.Expr} {
			n, at, e := read(s)
			if e != api.OK && (told(n, true) != "0@0" || at > len(s)) || e == api.OK && at != 0 {
				t.Errorf("%q: %s, %d, %v", s, told(n, true), at, e)
			}
		}
	}
}

// An answer is new memory: no list of a tree has room that another one has, too.
func TestMemory(t *testing.T) {
	r := rand.New(rand.NewSource(1207))
	for range 300 {
		w := &writer{pick: r.Intn}
		s, _ := w.program()
		n, _, _ := syntax.Parse(s)
		again, _, _ := syntax.Parse(s)
		before := told(again, true)
		fill(n, false)
		if told(n, true) != before {
			t.Fatalf("%q", s)
		}
		fill(n, true)
		if told(again, true) != before {
			t.Fatalf("%q", s)
		}
	}
}

// fill writes over the spare room of all lists, or over all of them.
func fill(n api.Node, all bool) {
	from, names := len(n.L), len(n.P)
	for i := range n.L {
		fill(n.L[i], all)
	}
	if all {
		from, names = 0, 0
	}
	for i := range n.L[from:cap(n.L)] {
		n.L[from:cap(n.L)][i] = api.Node{K: -7}
	}
	for i := range n.P[names:cap(n.P)] {
		n.P[names:cap(n.P)][i] = "?"
	}
}
