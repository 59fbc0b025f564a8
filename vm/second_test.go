package vm_test

import (
	"slices"
	"strconv"
	"strings"

	"auklet/api"
	"auklet/cell"
	"auklet/code"
	"auklet/match"
	"auklet/resolve"
	"auklet/streams"
	"auklet/subst"
)

// walk is a run as the document tells it: through the tree, node by node, with names in maps.
type walk struct {
	tree   api.Node
	table  api.Table
	io     *streams.Streams
	steps  int // how many are left
	status int
	text   string // the record's
	fields []string
	vars   map[string]api.Cell
	arrays map[string]elements
	in     map[int]bool // which items are ranges that are in
	scopes []scope
	synced []string // what was kept at each sync
}

// elements is what an array has.
type elements map[string]api.Cell

// scope is what a call has.
type scope struct {
	vars   map[string]api.Cell
	arrays map[string]elements
}

// left is how a statement was left: the kind of what left it, and what a return tells.
type left struct {
	k int
	c api.Cell
}

// newWalk is a run of a tree.
func newWalk(tree api.Node, in api.Input) *walk {
	table, _, _ := resolve.Names(tree)
	w := &walk{tree: tree, table: table, io: streams.New(in.Main, in.Files), steps: max(0, min(in.Fuel, 1048576))}
	w.vars = map[string]api.Cell{"NR": num(0), "RSTART": num(0), "RLENGTH": num(-1), "FS": str(" "), "OFS": str(" "), "ORS": str("\n"), "RS": str("\n"), "SUBSEP": str("\x1c")}
	w.arrays, w.in = map[string]elements{}, map[int]bool{}
	for i, name := range table.Arrays {
		w.arrays[name] = elements{}
		for _, from := range in.Kept {
			for k := 0; table.Keep[i] && from.Name == name && k < len(from.Keys) && k < len(from.Cells); k++ {
				if len(from.Keys[k]) <= 200 && cell.Can(from.Cells[k]) {
					w.arrays[name][from.Keys[k]] = from.Cells[k]
				}
			}
		}
	}
	return w
}

// num and str are cells.
func num(n int) api.Cell    { return api.Cell{K: api.Number, N: int64(n) * 1000000} }
func str(s string) api.Cell { return api.Cell{K: api.Text, S: s} }

// sorted are an array's keys.
func sorted(a elements) []string {
	var l []string
	for key := range a {
		l = append(l, key)
	}
	slices.Sort(l)
	return l
}

// kept are the arrays that are kept.
func (w *walk) kept() []api.Array {
	var l []api.Array
	for i, name := range w.table.Arrays {
		if w.table.Keep[i] {
			x := api.Array{Name: name, Keys: sorted(w.arrays[name])}
			for _, key := range x.Keys {
				x.Cells = append(x.Cells, w.arrays[name][key])
			}
			l = append(l, x)
		}
	}
	return l
}

// run is what the run tells.
func (w *walk) run() (r api.Result) {
	defer func() {
		if x := recover(); x != nil {
			r.Err = x.(api.Errno)
		}
		r.Out, r.Files, r.Status, r.Kept = w.io.Out(), w.io.Files(), w.status, w.kept()
	}()
	records := slices.ContainsFunc(w.tree.L, func(n api.Node) bool { return n.K == api.IRule || n.K == api.IRange || n.K == api.IEnd })
	if w.blocks(api.IBegin) && records {
		w.records()
	}
	w.blocks(api.IEnd)
	return api.Result{}
}

// caught runs what may be left in one of some ways, and tells how it was.
func caught(run func(), kinds ...int) (l left) {
	defer func() {
		if x := recover(); x != nil {
			how, ok := x.(left)
			if !ok || !slices.Contains(kinds, how.k) {
				panic(x)
			}
			l = how
		}
	}()
	run()
	return left{}
}

// wrong ends the run with an error.
func wrong(e api.Errno) {
	if e != api.OK {
		panic(e)
	}
}

// long ends the run, if a text has more bytes than it may.
func long(s string, most int) {
	if len(s) > most {
		panic(api.ErrLong)
	}
}

func (w *walk) step() {
	if w.steps == 0 {
		panic(api.ErrFuel)
	}
	w.steps--
}

// blocks goes through the blocks of a kind, and tells whether there was no exit.
func (w *walk) blocks(k int) bool {
	w.scopes = nil
	return caught(func() {
		for _, item := range w.tree.L {
			if item.K == k {
				w.stmt(item.L[0])
			}
		}
	}, api.SExit).k != api.SExit
}

func (w *walk) records() {
	for {
		s, ok, e := w.io.Main(w.word("RS"))
		wrong(e)
		if !ok {
			return
		}
		w.step()
		w.vars["NR"] = w.two("+", w.vars["NR"], num(1))
		w.take(s)
		w.scopes = nil
		if caught(w.rules, api.SExit, api.SNext).k == api.SExit {
			return
		}
	}
}

func (w *walk) rules() {
	for i, item := range w.tree.L {
		switch {
		case item.K == api.IRule && item.S == "01":
			w.stmt(item.L[0])
		case item.K == api.IRule && w.is(item.L[0]):
			w.action(item.L[1:])
		case item.K == api.IRange && (w.in[i] || w.is(item.L[0])):
			w.in[i] = !w.is(item.L[1])
			w.action(item.L[2:])
		}
	}
}

func (w *walk) action(blocks []api.Node) {
	for _, block := range blocks {
		w.stmt(block)
	}
	if len(blocks) == 0 {
		w.stmt(api.Node{K: api.SPrint})
	}
}

// word is the text of a variable of the language.
func (w *walk) word(name string) string { return cell.Str(w.vars[name]) }

// isPattern tells whether a separator is a pattern.
func isPattern(s string) bool { return s == `\` || len(s) >= 2 }

func (w *walk) take(s string) {
	by := w.word("FS")
	if isPattern(by) {
		long(s, 100)
	}
	l, _, e := subst.At(s, by)
	wrong(e)
	if len(l) > 100 {
		panic(api.ErrLong)
	}
	w.text, w.fields = s, l
}

// pattern is what stands as a pattern.
func (w *walk) pattern(n api.Node) *match.Pattern {
	s := n.S
	if n.K != api.ERegex {
		s = cell.Str(w.expr(n))
	}
	p, _, e := match.New(s)
	wrong(e)
	return p
}

// is tells whether an expression is true.
func (w *walk) is(n api.Node) bool { return cell.Truth(w.expr(n)) }

func (w *walk) two(sign string, a, b api.Cell) api.Cell {
	c, e := code.Two(sign, a, b)
	wrong(e)
	return c
}

func (w *walk) one(sign string, a api.Cell) api.Cell {
	c, e := code.One(sign, a)
	wrong(e)
	return c
}

func (w *walk) whole(c api.Cell) int {
	i, e := code.Count(c)
	wrong(e)
	return i
}

func (w *walk) exprs(l []api.Node) []api.Cell {
	var all []api.Cell
	for _, n := range l {
		all = append(all, w.expr(n))
	}
	return all
}

func (w *walk) key(l []api.Node) string {
	s, e := code.Key(w.exprs(l), w.word("SUBSEP"))
	wrong(e)
	return s
}

// array is the array of a name.
func (w *walk) array(name string) elements {
	if many := len(w.scopes); many > 0 {
		if a, local := w.scopes[many-1].arrays[name]; local {
			return a
		}
	}
	return w.arrays[name]
}

// variables are those among which a name is.
func (w *walk) variables(name string) map[string]api.Cell {
	if many := len(w.scopes); many > 0 {
		if _, local := w.scopes[many-1].vars[name]; local {
			return w.scopes[many-1].vars
		}
	}
	return w.vars
}

// spot is what can be asked and set.
type spot struct {
	get func() api.Cell
	set func(c api.Cell)
}

// spot is that of a node, whose parts are asked now.
func (w *walk) spot(n api.Node) spot {
	switch {
	case n.K == api.EIndex:
		a, key := w.array(n.S), w.key(n.L)
		return spot{func() api.Cell {
			a[key] = a[key]
			return a[key]
		}, func(c api.Cell) { a[key] = c }}
	case n.K == api.EField:
		i := w.whole(w.expr(n.L[0]))
		return spot{func() api.Cell { return w.field(i) }, func(c api.Cell) { w.setField(i, cell.Str(c)) }}
	case n.S == "NF":
		return spot{func() api.Cell { return num(len(w.fields)) }, func(c api.Cell) { w.resize(w.whole(c)) }}
	}
	vars := w.variables(n.S)
	return spot{func() api.Cell { return vars[n.S] }, func(c api.Cell) { vars[n.S] = c }}
}

func (w *walk) field(i int) api.Cell {
	switch {
	case i < 0 || i > 100:
		panic(api.ErrField)
	case i == 0:
		return cell.Input(w.text)
	case i > len(w.fields):
		return api.Cell{}
	}
	return cell.Input(w.fields[i-1])
}

func (w *walk) setField(i int, s string) {
	switch {
	case i < 0 || i > 100:
		panic(api.ErrField)
	case i == 0:
		w.take(s)
		return
	case i > len(w.fields):
		w.resize(i)
	}
	w.fields = slices.Clone(w.fields)
	w.fields[i-1] = s
	w.text = strings.Join(w.fields, w.word("OFS"))
}

func (w *walk) resize(n int) {
	if n < 0 || n > 100 {
		panic(api.ErrField)
	}
	w.fields = append(slices.Clone(w.fields), make([]string, 100)...)[:n]
	w.text = strings.Join(w.fields, w.word("OFS"))
}

func (w *walk) expr(n api.Node) api.Cell {
	switch n.K {
	case api.ENum:
		return api.Cell{K: api.Number, N: n.N}
	case api.EStr:
		return str(n.S)
	case api.ERegex:
		return code.Bool(w.found(w.text, w.pattern(n)))
	case api.EAssign:
		return w.assign(n)
	case api.ECond:
		if w.is(n.L[0]) {
			return w.expr(n.L[1])
		}
		return w.expr(n.L[2])
	case api.EOr:
		return code.Bool(w.is(n.L[0]) || w.is(n.L[1]))
	case api.EAnd:
		return code.Bool(w.is(n.L[0]) && w.is(n.L[1]))
	case api.EIn:
		_, there := w.array(n.S)[w.key(n.L)]
		return code.Bool(there)
	case api.EMatch:
		s := cell.Str(w.expr(n.L[0]))
		return code.Bool(w.found(s, w.pattern(n.L[1])) == (n.S == "~"))
	case api.ECmp, api.EBin:
		a := w.expr(n.L[0])
		return w.two(n.S, a, w.expr(n.L[1]))
	case api.ECat:
		a := w.expr(n.L[0])
		c, e := code.Join(a, w.expr(n.L[1]))
		wrong(e)
		return c
	case api.EUn:
		return w.one(n.S, w.expr(n.L[0]))
	case api.EStep:
		return w.stepped(n)
	case api.ECall:
		return w.call(n)
	case api.EOwn:
		return w.own(n)
	case api.EGet:
		return w.getline(n)
	}
	return w.spot(n).get()
}

// found tells whether a pattern is found in a text.
func (w *walk) found(s string, p *match.Pattern) bool {
	long(s, 100)
	return p.Is(s)
}

func (w *walk) assign(n api.Node) api.Cell {
	c := w.expr(n.L[1])
	to := w.spot(n.L[0])
	if n.S != "=" {
		c = w.two(n.S, to.get(), c)
	}
	to.set(c)
	return c
}

func (w *walk) stepped(n api.Node) api.Cell {
	to := w.spot(n.L[0])
	was := w.one("+", to.get())
	is := w.two(strings.Trim(n.S, "x")[:1], was, num(1))
	to.set(is)
	if n.S[0] == 'x' {
		return was
	}
	return is
}

func (w *walk) call(n api.Node) api.Cell {
	f := w.table.Funcs[slices.IndexFunc(w.table.Funcs, func(f api.Func) bool { return f.Name == n.S })]
	x := scope{map[string]api.Cell{}, map[string]elements{}}
	for i, name := range f.Params {
		switch {
		case i < len(n.L) && f.Array[i]:
			x.arrays[name] = w.array(n.L[i].S)
		case i < len(n.L):
			x.vars[name] = w.expr(n.L[i])
		case f.Array[i]:
			x.arrays[name] = elements{}
		default:
			x.vars[name] = api.Cell{}
		}
	}
	w.step()
	if len(w.scopes) == 50 {
		panic(api.ErrCalls)
	}
	item := slices.IndexFunc(w.tree.L, func(item api.Node) bool { return item.K == api.IFunc && item.S == n.S })
	w.scopes = append(w.scopes, x)
	how := caught(func() { w.stmt(w.tree.L[item].L[0]) }, api.SReturn)
	w.scopes = w.scopes[:len(w.scopes)-1]
	return how.c
}

func (w *walk) own(n api.Node) api.Cell {
	switch n.S {
	case "match":
		s := cell.Str(w.expr(n.L[0]))
		p := w.pattern(n.L[1])
		long(s, 100)
		w.vars["RSTART"], w.vars["RLENGTH"] = num(0), num(-1)
		if a, b, ok := p.Find(s, 0); ok {
			w.vars["RSTART"], w.vars["RLENGTH"] = num(len([]rune(s[:a]))+1), num(len([]rune(s[a:b])))
		}
		return w.vars["RSTART"]
	case "split":
		return w.split(n)
	case "sub", "gsub":
		return w.sub(n)
	case "sync":
		w.synced = append(w.synced, shown(w.kept()))
		return num(1)
	}
	l := w.exprs(n.L)
	if n.S == "length" && len(l) == 0 {
		l = []api.Cell{str(w.text)}
	}
	c, e := code.Own(n.S, l)
	wrong(e)
	return c
}

func (w *walk) split(n api.Node) api.Cell {
	s := cell.Str(w.expr(n.L[0]))
	var parts []string
	by := api.Node{K: api.EVar, S: "FS"}
	if len(n.L) == 3 {
		by = n.L[2]
	}
	separator := ""
	if by.K != api.ERegex {
		separator = cell.Str(w.expr(by))
		by = api.Node{K: api.EStr, S: separator}
	}
	if by.K == api.ERegex || isPattern(separator) {
		p := w.pattern(by)
		long(s, 100)
		parts = subst.Split(p, s)
	} else {
		parts, _, _ = subst.At(s, separator)
	}
	a := w.array(n.L[1].S)
	clear(a)
	for i, part := range parts {
		w.step()
		a[strconv.Itoa(i+1)] = cell.Input(part)
	}
	return num(len(parts))
}

func (w *walk) sub(n api.Node) api.Cell {
	p := w.pattern(n.L[0])
	by := cell.Str(w.expr(n.L[1]))
	to := w.spot(append(n.L, api.Node{K: api.EField, L: []api.Node{{}}})[2])
	s := cell.Str(to.get())
	long(s, 100)
	long(by, 100)
	put := map[string]func(*match.Pattern, string, string) (string, int){"sub": subst.Sub, "gsub": subst.All}[n.S]
	made, many := put(p, by, s)
	long(made, 65536)
	if many > 0 {
		to.set(str(made))
	}
	return num(many)
}

func (w *walk) getline(n api.Node) api.Cell {
	s, told := "", 0
	var e api.Errno
	if strings.Contains(n.S, "f") {
		name := cell.Str(w.expr(n.L[len(n.L)-1]))
		s, told, e = w.io.Read(name, w.word("RS"))
	} else {
		var ok bool
		if s, ok, e = w.io.Main(w.word("RS")); ok {
			told = 1
		}
	}
	wrong(e)
	if told != 1 {
		return num(told)
	}
	if !strings.Contains(n.S, "f") {
		w.vars["NR"] = w.two("+", w.vars["NR"], num(1))
	}
	if strings.Contains(n.S, "v") {
		w.spot(n.L[0]).set(cell.Input(s))
	} else {
		w.take(s)
	}
	return num(1)
}

// looped runs a statement in a loop, and tells whether the loop goes on.
func (w *walk) looped(n api.Node) bool {
	return caught(func() { w.stmt(n) }, api.SBreak, api.SGo).k != api.SBreak
}

func (w *walk) stmt(n api.Node) {
	w.step()
	switch n.K {
	case api.SExpr:
		w.expr(n.L[0])
	case api.SPrint, api.SFormat:
		w.print(n)
	case api.SIf:
		if w.is(n.L[0]) {
			w.stmt(n.L[1])
		} else if len(n.L) == 3 {
			w.stmt(n.L[2])
		}
	case api.SWhile:
		for w.is(n.L[0]) && w.looped(n.L[1]) {
		}
	case api.SDo:
		for w.looped(n.L[0]) && w.is(n.L[1]) {
		}
	case api.SFor:
		w.counted(n)
	case api.SEach:
		for _, key := range sorted(w.array(n.P[1])) {
			w.spot(api.Node{K: api.EVar, S: n.P[0]}).set(str(key))
			if !w.looped(n.L[0]) {
				break
			}
		}
	case api.SBlock:
		for _, part := range n.L {
			w.stmt(part)
		}
	case api.SExit:
		for _, c := range w.exprs(n.L) {
			w.status = (w.whole(c)%256 + 256) % 256
		}
		panic(left{k: api.SExit})
	case api.SReturn:
		panic(left{api.SReturn, append(w.exprs(n.L), api.Cell{})[0]})
	case api.SDelete:
		if a := w.array(n.S); len(n.L) == 0 {
			clear(a)
		} else {
			delete(a, w.key(n.L))
		}
	default:
		panic(left{k: n.K})
	}
}

func (w *walk) print(n api.Node) {
	l := w.exprs(n.L)
	name := ""
	if n.S != "" {
		name = cell.Str(l[len(l)-1])
		l = l[:len(l)-1]
	}
	var s string
	switch {
	case n.K == api.SFormat:
		c, e := code.Own("sprintf", l)
		wrong(e)
		s = c.S
	case len(l) == 0:
		s = w.text + w.word("ORS")
	default:
		var texts []string
		for _, c := range l {
			texts = append(texts, cell.Str(c))
		}
		s = strings.Join(texts, w.word("OFS")) + w.word("ORS")
	}
	if n.S == "" {
		wrong(w.io.Print(s))
	} else {
		wrong(w.io.Write(name, s, n.S == ">>"))
	}
}

// counted runs a for with three parts.
func (w *walk) counted(n api.Node) {
	l := [4][]api.Node{3: {n.L[len(n.L)-1]}}
	next := 0
	for i, is := range n.S {
		if is == '1' {
			l[i] = []api.Node{n.L[next]}
			next++
		}
	}
	all := func(l []api.Node) bool { return !slices.ContainsFunc(l, func(n api.Node) bool { return !w.looped(n) }) }
	if !all(l[0]) {
		return
	}
	for !slices.ContainsFunc(l[1], func(n api.Node) bool { return !w.is(n) }) {
		if !all(l[3]) || !all(l[2]) {
			return
		}
	}
}
