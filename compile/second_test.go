package compile_test

import (
	"math/rand"
	"slices"
	"strconv"
	"strings"
	"testing"

	"auklet/api"
	"auklet/compile"
	"auklet/dec"
	"auklet/resolve"
)

// trace is what a run does, line by line: what a line tells is called # and the line's number farther on. What is decided by a value is picked.
type trace struct {
	lines []string
	pick  func(n int) int
}

// tooLong is given up with when a trace is long enough.
type tooLong struct{}

// did writes a line, and is what it tells.
func (t *trace) did(words ...string) string {
	if len(t.lines) == 300 {
		panic(tooLong{})
	}
	t.lines = append(t.lines, strings.Join(words, " "))
	return "#" + strconv.Itoa(len(t.lines))
}

// decide writes a line, and whether what it tells is so.
func (t *trace) decide(words ...string) (string, bool) {
	told := t.did(words...)
	return told, t.pick(3) > 0
}

// left is how a statement was left: the kind of what left it, and what a return tells.
type left struct {
	k     int
	value string
}

// parts goes through BEGIN, some records, and END.
func (t *trace) parts(reads bool, begin, rules, end func() left) {
	t.did("BEGIN")
	on := begin().k != api.SExit && reads
	for on {
		if _, on = t.decide("record"); on {
			on = rules().k != api.SExit
		}
	}
	t.did("END")
	end()
}

// traced is the trace of a run.
func traced(seed int64, run func(t *trace)) (lines []string) {
	t := &trace{pick: rand.New(rand.NewSource(seed)).Intn}
	defer func() {
		x := recover()
		if _, ok := x.(tooLong); x != nil && !ok {
			panic(x)
		}
		lines = t.lines
	}()
	run(t)
	return nil
}

// tree is a run of a tree, as the document says it (18).
type tree struct {
	*trace
	n  api.Node
	f  api.Node // the function that runs
	in map[int]bool
}

// runTree runs a tree.
func runTree(t *trace, n api.Node) {
	r := &tree{trace: t, n: n, in: map[int]bool{}}
	reads := slices.ContainsFunc(n.L, func(item api.Node) bool { return item.K == api.IRule || item.K == api.IRange || item.K == api.IEnd })
	t.parts(reads, func() left { return r.blocks(api.IBegin) }, r.rules, func() left { return r.blocks(api.IEnd) })
}

// caught runs what may be left in one of some ways, and tells how it was.
func caught(run func(), kinds ...int) (l left) {
	defer func() {
		if x := recover(); x != nil {
			how, ok := x.(left)
			if !ok || !slices.Contains(kinds, how.k) {
				panic(x)
			}
			l = how
		}
	}()
	run()
	return left{}
}

func (r *tree) blocks(k int) left {
	return caught(func() {
		for _, item := range r.n.L {
			if item.K == k {
				r.stmt(item.L[0])
			}
		}
	}, api.SExit)
}

func (r *tree) rules() left {
	return caught(func() {
		for i, item := range r.n.L {
			switch {
			case item.K == api.IRule && item.S == "01":
				r.stmt(item.L[0])
			case item.K == api.IRule && r.is(item.L[0]):
				r.action(item.L[1:])
			case item.K == api.IRange && (r.in[i] || r.is(item.L[0])):
				r.in[i] = !r.is(item.L[1])
				r.action(item.L[2:])
			}
		}
	}, api.SExit, api.SNext)
}

func (r *tree) action(blocks []api.Node) {
	for _, block := range blocks {
		r.stmt(block)
	}
	if len(blocks) == 0 {
		r.did("stmt")
		r.did("print", `""`)
	}
}

// is decides by an expression.
func (r *tree) is(n api.Node) bool {
	_, is := r.decide("if", r.expr(n))
	return is
}

// name is a name with whose it is.
func (r *tree) name(s string) string {
	if slices.Contains(r.f.P, s) {
		return r.f.S + "." + s
	}
	return s
}

func (r *tree) exprs(l []api.Node) []string {
	var all []string
	for _, n := range l {
		all = append(all, r.expr(n))
	}
	return all
}

func (r *tree) key(l []api.Node) string {
	return r.did(append([]string{"key"}, r.exprs(l)...)...)
}

func (r *tree) place(n api.Node) string {
	switch n.K {
	case api.EIndex:
		return r.name(n.S) + "[] " + r.key(n.L)
	case api.EField:
		return "$ " + r.expr(n.L[0])
	}
	return r.name(n.S)
}

func (r *tree) pattern(n api.Node) string {
	s := strconv.Quote(n.S)
	if n.K != api.ERegex {
		s = r.expr(n)
	}
	r.did("pattern", s)
	return s
}

func (r *tree) expr(n api.Node) string {
	switch n.K {
	case api.ENum:
		return dec.Show(n.N)
	case api.EStr:
		return strconv.Quote(n.S)
	case api.ERegex:
		return r.did("match", r.did("load $ 0"), r.pattern(n))
	case api.EAssign:
		value := r.expr(n.L[1])
		return r.did("assign", strconv.Quote(n.S), r.place(n.L[0]), value)
	case api.ECond:
		if r.is(n.L[0]) {
			return r.expr(n.L[1])
		}
		return r.expr(n.L[2])
	case api.EOr:
		if r.is(n.L[0]) {
			return "1"
		}
		return r.did("truth", r.expr(n.L[1]))
	case api.EAnd:
		if !r.is(n.L[0]) {
			return "0"
		}
		return r.did("truth", r.expr(n.L[1]))
	case api.EIn:
		return r.did("has", r.name(n.S)+"[]", r.key(n.L))
	case api.EMatch:
		is := r.did("match", r.expr(n.L[0]), r.pattern(n.L[1]))
		if n.S == "!~" {
			return r.did("one", `"!"`, is)
		}
		return is
	case api.ECmp, api.EBin:
		return r.did("two", strconv.Quote(n.S), r.expr(n.L[0]), r.expr(n.L[1]))
	case api.ECat:
		return r.did("join", r.expr(n.L[0]), r.expr(n.L[1]))
	case api.EUn:
		return r.did("one", strconv.Quote(n.S), r.expr(n.L[0]))
	case api.EStep:
		return r.did("step", strconv.Quote(n.S), r.place(n.L[0]))
	case api.ECall:
		return r.call(n)
	case api.EOwn:
		return r.own(n)
	case api.EGet:
		return r.get(n)
	}
	return r.did("load", r.place(n))
}

func (r *tree) call(n api.Node) string {
	i := slices.IndexFunc(r.n.L, func(item api.Node) bool { return item.K == api.IFunc && item.S == n.S })
	table, _, _ := resolve.Names(r.n)
	f := slices.IndexFunc(table.Funcs, func(f api.Func) bool { return f.Name == n.S })
	words := []string{"call", n.S}
	for i, part := range n.L {
		if table.Funcs[f].Array[i] {
			words = append(words, r.name(part.S)+"[]")
		} else {
			words = append(words, r.expr(part))
		}
	}
	r.did(words...)
	defer func(f api.Node) { r.f = f }(r.f)
	r.f = r.n.L[i]
	how := caught(func() { r.stmt(r.f.L[0]) }, api.SReturn)
	if how.k != api.SReturn {
		return "nothing"
	}
	return how.value
}

func (r *tree) own(n api.Node) string {
	switch n.S {
	case "match":
		return r.did("find", r.expr(n.L[0]), r.pattern(n.L[1]))
	case "split":
		s := r.expr(n.L[0])
		switch {
		case len(n.L) == 2:
			return r.did("split 0", r.name(n.L[1].S)+"[]", s, r.did("load FS"))
		case n.L[2].K == api.ERegex:
			return r.did("split 1", r.name(n.L[1].S)+"[]", s, r.pattern(n.L[2]))
		}
		return r.did("split 0", r.name(n.L[1].S)+"[]", s, r.expr(n.L[2]))
	case "sub", "gsub":
		words := []string{"sub", map[string]string{"sub": "0", "gsub": "1"}[n.S], r.pattern(n.L[0]), r.expr(n.L[1]), "$ 0"}
		if len(n.L) == 3 {
			words[4] = r.place(n.L[2])
		}
		return r.did(words...)
	case "sync":
		return r.did("sync")
	case "length":
		if len(n.L) == 0 {
			return r.did("own", `"length"`, r.did("load $ 0"))
		}
	}
	return r.did(append([]string{"own", strconv.Quote(n.S)}, r.exprs(n.L)...)...)
}

func (r *tree) get(n api.Node) string {
	words := []string{"read 0"}
	if strings.Contains(n.S, "f") {
		words = []string{"read 1", r.expr(n.L[len(n.L)-1])}
	}
	record, is := r.decide(words...)
	switch {
	case !is:
		return "none"
	case strings.Contains(n.S, "v"):
		r.did("assign", `"="`, r.place(n.L[0]), record)
	default:
		r.did("take", record)
	}
	return "1"
}

// looped runs a statement in a loop, and tells whether the loop goes on.
func (r *tree) looped(n api.Node) bool {
	return caught(func() { r.stmt(n) }, api.SBreak, api.SGo).k != api.SBreak
}

func (r *tree) stmt(n api.Node) {
	r.did("stmt")
	switch n.K {
	case api.SExpr:
		r.expr(n.L[0])
	case api.SPrint:
		r.did(append([]string{"print", strconv.Quote(n.S)}, r.exprs(n.L)...)...)
	case api.SFormat:
		r.did(append([]string{"format", strconv.Quote(n.S)}, r.exprs(n.L)...)...)
	case api.SIf:
		if r.is(n.L[0]) {
			r.stmt(n.L[1])
		} else if len(n.L) == 3 {
			r.stmt(n.L[2])
		}
	case api.SWhile:
		for r.is(n.L[0]) && r.looped(n.L[1]) {
		}
	case api.SDo:
		for r.looped(n.L[0]) && r.is(n.L[1]) {
		}
	case api.SFor:
		r.counted(n)
	case api.SEach:
		r.did("keys", r.name(n.P[1])+"[]")
		for {
			key, is := r.decide("more")
			if !is {
				break
			}
			r.did("assign", `"="`, r.name(n.P[0]), key)
			if !r.looped(n.L[0]) {
				break
			}
		}
		r.did("done")
	case api.SBlock:
		for _, part := range n.L {
			r.stmt(part)
		}
	case api.SReturn:
		panic(left{api.SReturn, append(r.exprs(n.L), "nothing")[0]})
	case api.SExit:
		r.did(append([]string{"exit"}, r.exprs(n.L)...)...)
		panic(left{k: api.SExit})
	case api.SDelete:
		if len(n.L) == 0 {
			r.did("clear", r.name(n.S)+"[]")
		} else {
			r.did("delete", r.name(n.S)+"[]", r.key(n.L))
		}
	default:
		panic(left{k: n.K})
	}
}

// counted runs a for with three parts.
func (r *tree) counted(n api.Node) {
	l := [4][]api.Node{3: {n.L[len(n.L)-1]}}
	next := 0
	for i, is := range n.S {
		if is == '1' {
			l[i] = []api.Node{n.L[next]}
			next++
		}
	}
	all := func(l []api.Node) bool { return !slices.ContainsFunc(l, func(n api.Node) bool { return !r.looped(n) }) }
	if !all(l[0]) {
		return
	}
	for {
		for _, n := range l[1] {
			if !r.is(n) {
				return
			}
		}
		if !all(l[3]) || !all(l[2]) {
			return
		}
	}
}

// code is a run of code.
type code struct {
	*trace
	compile.Code
	in  map[int]bool
	ops map[compile.Op]int // how often each instruction came
}

// runCode runs code.
func runCode(t *trace, c compile.Code, ops map[compile.Op]int) {
	r := &code{t, c, map[int]bool{}, ops}
	from := func(at int) func() left {
		return func() left {
			return caught(func() { r.run(at, -1) }, api.SExit)
		}
	}
	t.parts(c.Reads, from(c.Begin), from(c.Rules), from(c.End))
}

// frame is a call that runs: where it is, in which function, what lies on its stack, how many arrays are gone through.
type frame struct {
	*code
	at, f int
	stack []string
	keys  int
}

func (f *frame) push(s string) { f.stack = append(f.stack, s) }

// pop takes the last of the stack's.
func (f *frame) pop() string { return f.pops(1)[0] }

// pops takes so many, in the order in which they were laid.
func (f *frame) pops(many int) []string {
	l := slices.Clone(f.stack[len(f.stack)-many:])
	f.stack = f.stack[:len(f.stack)-many]
	return l
}

// clean is that so many lie on the stack.
func (f *frame) clean(many int) {
	if len(f.stack) != many {
		panic("a stack that is not clean: " + strings.Join(f.stack, " "))
	}
}

// name is a place, or an array, without what it needs.
func (f *frame) name(kind, which int) string {
	switch kind {
	case compile.Var:
		return f.Table.Vars[which]
	case compile.Elem:
		return f.Table.Arrays[which] + "[]"
	case compile.Field:
		return "$"
	}
	function := f.Table.Funcs[f.f]
	if function.Array[which] != (kind == compile.ParamElem) {
		panic("a parameter that is not what it is")
	}
	return function.Name + "." + function.Params[which] + map[bool]string{true: "[]"}[function.Array[which]]
}

// place is a place, with what it needs.
func (f *frame) place(kind, which int) string {
	if kind == compile.Var || kind == compile.Param {
		return f.name(kind, which)
	}
	return f.name(kind, which) + " " + f.pop()
}

// constant is a constant as a text.
func (f *frame) constant(i int) string {
	switch v := f.Consts[i]; v.K {
	case api.Number:
		return dec.Show(v.N)
	case api.Text:
		return strconv.Quote(v.S)
	}
	return "nothing"
}

// run runs from an instruction on, till the part of the run ends, or the function tells something.
func (r *code) run(at, function int) string {
	f := &frame{code: r, at: at, f: function}
	for range 10000 {
		ins := f.Ins[f.at]
		f.ops[ins.Op]++
		f.at++
		switch ins.Op {
		case compile.Stop:
			f.clean(0)
			if function >= 0 {
				panic("a function that ends a part of the run")
			}
			return ""
		case compile.Return:
			f.clean(1)
			return f.pop()
		}
		if !f.moves(ins) && !f.does(ins) {
			f.tells(ins)
		}
	}
	panic("what does nothing, and does not end")
}

// moves does an instruction that decides where to go on, if it is one.
func (f *frame) moves(ins compile.Ins) bool {
	to, is := ins.N[0], true
	switch ins.Op {
	case compile.Jump:
	case compile.JumpIf:
		_, is = f.decide("if", f.pop())
	case compile.JumpUnless:
		_, is = f.decide("if", f.pop())
		is = !is
	case compile.More:
		if f.keys < 1 {
			panic("no keys to go through")
		}
		var key string
		if key, is = f.decide("more"); is {
			f.push(key)
		}
		is = !is
	case compile.Read:
		to = ins.N[1]
		record, there := f.decide(append([]string{"read " + strconv.Itoa(ins.N[0])}, f.pops(ins.N[0])...)...)
		if is = !there; is {
			record = "none"
		}
		f.push(record)
	case compile.Inside:
		to, is = ins.N[1], f.in[ins.N[0]]
	default:
		return false
	}
	if is {
		f.at = to
	}
	return true
}

// does does an instruction that tells nothing, if it is one.
func (f *frame) does(ins compile.Ins) bool {
	switch a, b := ins.N[0], ins.N[1]; ins.Op {
	case compile.Stmt:
		f.clean(0)
		f.did("stmt")
	case compile.Pop:
		f.pop()
	case compile.Pattern:
		f.did("pattern", f.stack[len(f.stack)-1])
	case compile.Take:
		f.did("take", f.pop())
	case compile.Keys:
		f.did("keys", f.name(a, b))
		f.keys++
	case compile.Done:
		f.did("done")
		f.keys--
	case compile.Delete:
		f.did("delete", f.name(a, b), f.pop())
	case compile.Clear:
		f.did("clear", f.name(a, b))
	case compile.Print, compile.Format:
		many := b
		if f.Consts[a].S != "" {
			many++
		}
		name := map[compile.Op]string{compile.Print: "print", compile.Format: "format"}[ins.Op]
		f.did(append([]string{name, f.constant(a)}, f.pops(many)...)...)
	case compile.Exit:
		f.did(append([]string{"exit"}, f.pops(a)...)...)
		f.clean(0)
		panic(left{k: api.SExit})
	case compile.Enter:
		f.in[a] = true
	case compile.Leave:
		f.in[a] = false
	default:
		return false
	}
	return true
}

// tells does an instruction that tells something.
func (f *frame) tells(ins compile.Ins) {
	a, b, c := ins.N[0], ins.N[1], ins.N[2]
	told := ""
	switch ins.Op {
	case compile.Push:
		told = f.constant(a)
	case compile.Load:
		told = f.did("load", f.place(a, b))
	case compile.Key:
		told = f.did(append([]string{"key"}, f.pops(a)...)...)
	case compile.Has:
		told = f.did("has", f.name(a, b), f.pop())
	case compile.Assign:
		told = f.did("assign", f.constant(a), f.place(b, c), f.pop())
	case compile.Step:
		told = f.did("step", f.constant(a), f.place(b, c))
	case compile.Two:
		told = f.did(append([]string{"two", f.constant(a)}, f.pops(2)...)...)
	case compile.One:
		told = f.did("one", f.constant(a), f.pop())
	case compile.Join:
		told = f.did(append([]string{"join"}, f.pops(2)...)...)
	case compile.Truth:
		told = f.did("truth", f.pop())
	case compile.Match:
		told = f.did(append([]string{"match"}, f.pops(2)...)...)
	case compile.Find:
		told = f.did(append([]string{"find"}, f.pops(2)...)...)
	case compile.Split:
		told = f.did(append([]string{"split", strconv.Itoa(a), f.name(b, c)}, f.pops(2)...)...)
	case compile.Sub:
		place := f.place(b, c)
		told = f.did(append(append([]string{"sub", strconv.Itoa(a)}, f.pops(2)...), place)...)
	case compile.Own:
		told = f.did(append([]string{"own", f.constant(a)}, f.pops(b)...)...)
	case compile.Sync:
		told = f.did("sync")
	case compile.Array:
		told = f.name(a, b)
	case compile.Call:
		f.did(append([]string{"call", f.Table.Funcs[a].Name}, f.pops(b)...)...)
		told = f.run(f.Funcs[a], a)
	default:
		panic("no instruction: " + strconv.Itoa(int(ins.Op)))
	}
	f.push(told)
}

// P16.1: the code that is made does what the document says of the tree, in that order, whatever is decided on the way.
func TestSameAsTree(t *testing.T) {
	r := rand.New(rand.NewSource(1601))
	g := programs()
	ops := map[compile.Op]int{}
	for range 6000 {
		s, n := random(t, r.Intn, g)
		m, _, _ := compile.New(n)
		for range 3 {
			seed := r.Int63()
			want := traced(seed, func(t *trace) { runTree(t, n) })
			got := traced(seed, func(t *trace) { runCode(t, m.Code(), ops) })
			if !slices.Equal(got, want) {
				t.Fatalf("%s\n%s\n%s\nnot\n%s", s, m.List(), strings.Join(got, "\n"), strings.Join(want, "\n"))
			}
		}
	}
	for op := compile.Push; op <= compile.Stop; op++ {
		if ops[op] < 100 {
			t.Errorf("instruction %d: only %d", op, ops[op])
		}
	}
}
