package resolve_test

import (
	"math/rand"
	"reflect"
	"slices"
	"strconv"
	"strings"
	"testing"

	"auklet/api"
	"auklet/lex"
	"auklet/resolve"
	"auklet/show"
	"auklet/syntax"
)

// spot is a node of a tree with all in which it stands, from the outermost in, and which part of each it is.
type spot struct {
	n     api.Node
	path  []api.Node
	parts []int
	funcs []int // which functions of the tree are among path
}

// spots are all nodes of n, each ahead of its parts.
func spots(n api.Node) []spot {
	var all []spot
	functions := 0
	var add func(s spot)
	add = func(s spot) {
		all = append(all, s)
		funcs := slices.Clone(s.funcs)
		if s.n.K == api.IFunc {
			funcs = append(funcs, functions)
			functions++
		}
		for i, part := range s.n.L {
			add(spot{part, append(slices.Clone(s.path), s.n), append(slices.Clone(s.parts), i), funcs})
		}
	}
	add(spot{n: n})
	return all
}

// within tells whether a spot stands in a node of one of the kinds; of a loop just of the same function.
func (s spot) within(kinds ...int) bool {
	for i := len(s.path) - 1; i >= 0; i-- {
		if slices.Contains(kinds, s.path[i].K) {
			return true
		}
		if s.path[i].K == api.IFunc && kinds[0] == api.SWhile {
			return false
		}
	}
	return false
}

// use is a name that stands at a spot: whose it is, as a text, and whether it stands as an array.
type use struct {
	name, whose string
	array       bool
}

// second is a second reckoning of a tree's names: by passes over all spots, until no more arrays are found.
type second struct {
	all    []spot
	funcs  []api.Node
	arrays map[string]bool
}

// newSecond is that of a tree.
func newSecond(n api.Node) *second {
	r := &second{all: spots(n), arrays: map[string]bool{}}
	for _, s := range r.all {
		if s.n.K == api.IFunc {
			r.funcs = append(r.funcs, s.n)
		}
	}
	for many := -1; many < len(r.arrays); {
		many = len(r.arrays)
		for _, s := range r.all {
			for _, u := range r.uses(s) {
				if u.array {
					r.arrays[u.whose] = true
				}
			}
		}
	}
	return r
}

// function is the first one of a name, and which one it is; -1 if there is none.
func (r *second) function(name string) int {
	return slices.IndexFunc(r.funcs, func(f api.Node) bool { return f.S == name })
}

// whose is a name at a spot, told from all those of other functions.
func (r *second) whose(s spot, name string) string {
	for i := len(s.funcs) - 1; i >= 0; i-- {
		if slices.Contains(r.funcs[s.funcs[i]].P, name) {
			return strconv.Itoa(s.funcs[i]) + " " + name
		}
	}
	return name
}

// uses are the names that stand at a spot, as far as arrays are known.
func (r *second) uses(s spot) []use {
	one := func(name string, array bool) use { return use{name, r.whose(s, name), array} }
	switch {
	case s.n.K == api.EVar:
		return []use{one(s.n.S, r.handed(s))}
	case s.n.K == api.EIndex, s.n.K == api.EIn, s.n.K == api.SDelete:
		return []use{one(s.n.S, true)}
	case s.n.K == api.SEach && len(s.n.P) == 2:
		return []use{one(s.n.P[0], false), one(s.n.P[1], true)}
	case s.n.K == api.IKeep:
		var l []use
		for _, name := range s.n.P {
			l = append(l, one(name, true))
		}
		return l
	}
	return nil
}

// handed tells whether the node at a spot, which is a name, stands as an array by what it is a part of.
func (r *second) handed(s spot) bool {
	if len(s.path) == 0 {
		return false
	}
	of, i := s.path[len(s.path)-1], s.parts[len(s.parts)-1]
	return of.K == api.EOwn && of.S == "split" && i == 1 || of.K == api.ECall && r.takesArray(of.S, i)
}

// takesArray tells whether the i-th parameter of a function is an array.
func (r *second) takesArray(name string, i int) bool {
	f := r.function(name)
	return f >= 0 && i < len(r.funcs[f].P) && r.arrays[strconv.Itoa(f)+" "+r.funcs[f].P[i]]
}

// isSpecial tells whether the language sets a name.
func isSpecial(name string) bool { return slices.Contains(strings.Fields(specials), name) }

// bad tells whether a name can't be one of a program's own.
func bad(name string) bool { return isSpecial(name) || !lex.Name(name) }

// item is what is wrong with an item, ahead of which some functions stand.
func (r *second) item(n api.Node, ahead []string) api.Errno {
	times := map[string]int{}
	most := 0
	for _, name := range n.P {
		times[name]++
		most = max(most, times[name])
	}
	switch {
	case n.K == api.IKeep && slices.ContainsFunc(n.P, func(name string) bool { return bad(name) || r.function(name) >= 0 }):
		return api.ErrName
	case n.K != api.IFunc:
		return api.OK
	case slices.Contains(ahead, n.S):
		return api.ErrThere
	case bad(n.S):
		return api.ErrName
	case len(n.P) > 20:
		return api.ErrLong
	case most > 1:
		return api.ErrThere
	case slices.ContainsFunc(n.P, func(name string) bool { return bad(name) || name == n.S }):
		return api.ErrName
	}
	return api.OK
}

// fault is what is wrong at a spot, and where.
func (r *second) fault(s spot) (int, api.Errno) {
	in := map[int]bool{
		api.SBreak: s.within(api.SWhile, api.SDo, api.SFor, api.SEach), api.SGo: s.within(api.SWhile, api.SDo, api.SFor, api.SEach),
		api.SReturn: s.within(api.IFunc), api.SNext: !s.within(api.IBegin, api.IEnd, api.IFunc),
	}
	if is, asked := in[s.n.K]; asked && !is {
		return s.n.At, api.ErrState
	}
	if s.n.K == api.ECall {
		f := r.function(s.n.S)
		switch {
		case f < 0:
			return s.n.At, api.ErrNone
		case len(s.n.L) > len(r.funcs[f].P):
			return s.n.At, api.ErrLong
		}
		for i, part := range s.n.L {
			if part.K != api.EVar && r.takesArray(s.n.S, i) {
				return part.At, api.ErrName
			}
		}
	}
	if s.n.K == api.IKeep {
		return 0, api.OK
	}
	for _, u := range r.uses(s) {
		if !lex.Name(u.name) || r.function(u.name) >= 0 && u.whose == u.name || u.array && isSpecial(u.name) || !u.array && r.arrays[u.whose] {
			return s.n.At, api.ErrName
		}
	}
	return 0, api.OK
}

// names is what Names should answer: a table as a text.
func (r *second) names() (string, int, api.Errno) {
	var ahead []string
	for _, s := range r.all {
		if e := r.item(s.n, ahead); e != api.OK {
			return "", s.n.At, e
		}
		if s.n.K == api.IFunc {
			ahead = append(ahead, s.n.S)
		}
	}
	for _, s := range r.all {
		if at, e := r.fault(s); e != api.OK {
			return "", at, e
		}
	}
	return r.table(), 0, api.OK
}

// table is the table as told tells it.
func (r *second) table() string {
	var vars, arrays, kept, funcs []string
	for _, s := range r.all {
		for _, u := range r.uses(s) {
			if u.whose != u.name {
				continue
			}
			if u.array {
				arrays = append(arrays, u.name)
			} else if !isSpecial(u.name) {
				vars = append(vars, u.name)
			}
			if s.n.K == api.IKeep {
				kept = append(kept, u.name)
			}
		}
	}
	vars, arrays = once(vars), once(arrays)
	for i, name := range arrays {
		if slices.Contains(kept, name) {
			arrays[i] += "!"
		}
	}
	for _, f := range r.funcs {
		var params []string
		for i, name := range f.P {
			params = append(params, name+map[bool]string{true: "[]"}[r.takesArray(f.S, i)])
		}
		funcs = append(funcs, f.S+"("+strings.Join(params, " ")+")")
	}
	return strings.Join(vars, " ") + "; " + strings.Join(arrays, " ") + "; " + strings.Join(funcs, " ")
}

// once are the names of l, each once, as they first come.
func once(l []string) []string {
	var kept []string
	for _, s := range l {
		if !slices.Contains(kept, s) {
			kept = append(kept, s)
		}
	}
	return kept
}

// holdSecond holds Names and Uses of a tree against the second reckoning, and tells its error.
func holdSecond(t *testing.T, n api.Node) api.Errno {
	t.Helper()
	r := newSecond(n)
	want, place, wrong := r.names()
	table, at, e := resolve.Names(n)
	got := ""
	if e == api.OK {
		got = told(table)
	} else if !isNone(table) {
		t.Errorf("a table beside %v", e)
	}
	if got != want || at != place || e != wrong {
		text, _ := show.Program(n)
		t.Fatalf("%s%+v: %q, %d, %v, not %q, %d, %v", text, n, got, at, e, want, place, wrong)
	}
	var uses []string
	for _, s := range r.all {
		for _, u := range r.uses(s) {
			uses = append(uses, u.name)
		}
	}
	if l := resolve.Uses(n); !slices.Equal(l, once(uses)) {
		t.Fatalf("Uses(%+v): %q, not %q", n, l, once(uses))
	}
	return e
}

// maker makes random trees of programs, in which a name or a statement stands now and then where it should not.
type maker struct {
	pick     func(n int) int
	careless int // of so many names, one is any
	at       int
	params   []string // of the function that is being made
	loop     bool
	begin    bool
	within   bool // whether a function is being made
}

// name is one of a list, or now and then any.
func (m *maker) name(l ...string) string {
	if m.pick(m.careless) == 0 {
		l = []string{"a", "b", "c", "x", "y", "z", "f", "g", "h", "p", "q", "r", "NR", "NF", "SUBSEP"}
	}
	return l[m.pick(len(l))]
}

// variable is a name that is meant as a variable, array one that is meant as an array.
func (m *maker) variable() string { return m.name("x", "y", "z", "NR", "FS", "p", "r") }
func (m *maker) array() string    { return m.name("a", "b", "c", "q") }

// node is a node of a kind at the next place.
func (m *maker) node(k int, s string, l ...api.Node) api.Node {
	m.at++
	return api.Node{K: k, S: s, At: m.at, L: l}
}

// exprs are up to most expressions, at least least.
func (m *maker) exprs(least, most, deep int) []api.Node {
	var l []api.Node
	for range least + m.pick(most-least+1) {
		l = append(l, m.expr(deep))
	}
	return l
}

// expr is an expression.
func (m *maker) expr(deep int) api.Node {
	if deep < 1 {
		if m.pick(3) == 0 {
			return m.node(api.ENum, "")
		}
		return m.node(api.EVar, m.variable())
	}
	deep--
	switch m.pick(9) {
	case 0, 1:
		return m.node(api.EIndex, m.array(), m.exprs(1, 2, deep)...)
	case 2:
		return m.node(api.EIn, m.array(), m.exprs(1, 2, deep)...)
	case 3, 4:
		return m.call(deep)
	case 5:
		array := m.node(api.EVar, m.array())
		return m.node(api.EOwn, "split", slices.Concat(m.exprs(1, 1, deep), []api.Node{array}, m.exprs(0, 1, deep))...)
	case 6:
		return m.node(api.EAssign, "=", m.node(api.EVar, m.variable()), m.expr(deep))
	case 7:
		return m.node(api.EGet, "v", m.node(api.EVar, m.variable()))
	}
	return m.node(api.EBin, "+", m.exprs(2, 2, deep)...)
}

// call is a call of f of p, q, g of q, p, or h of r, each with fewer parts now and then.
func (m *maker) call(deep int) api.Node {
	name := m.name("f", "g", "h")
	var l []api.Node
	many := m.pick(3)
	if m.pick(m.careless) < 3 {
		many = 3
	}
	for i := range many {
		switch {
		case name == "h" && i > 0 && many < 3:
		case m.pick(m.careless) == 0:
			l = append(l, m.expr(deep))
		case name == "f" && i == 1 || name == "g" && i == 0:
			l = append(l, m.node(api.EVar, m.array()))
		default:
			l = append(l, m.node(api.EVar, m.variable()))
		}
	}
	return m.node(api.ECall, name, l...)
}

// block is a block of statements.
func (m *maker) block(deep int) api.Node {
	n := m.node(api.SBlock, "")
	for range m.pick(4) {
		n.L = append(n.L, m.stmt(deep))
	}
	return n
}

// looped is a block in a loop.
func (m *maker) looped(deep int) api.Node {
	loop := m.loop
	m.loop = true
	n := m.block(deep)
	m.loop = loop
	return n
}

// stmt is a statement.
func (m *maker) stmt(deep int) api.Node {
	if deep < 1 {
		return m.leaving()
	}
	deep--
	switch m.pick(8) {
	case 0:
		return m.node(api.SWhile, "", m.expr(deep), m.looped(deep))
	case 1:
		return m.node(api.SFor, "111", m.node(api.SExpr, "", m.expr(deep)), m.expr(deep), m.node(api.SDelete, m.array()), m.looped(deep))
	case 2:
		n := m.node(api.SEach, "", m.looped(deep))
		n.P = []string{m.variable(), m.array()}
		return n
	case 3:
		return m.node(api.SIf, "", m.expr(deep), m.block(deep), m.block(deep))
	case 4:
		return m.node(api.SDelete, m.array(), m.exprs(0, 2, deep)...)
	case 5:
		return m.node(api.SPrint, "", m.exprs(0, 2, deep)...)
	case 6:
		return m.node(api.SDo, "", m.looped(deep), m.expr(deep))
	}
	return m.node(api.SExpr, "", m.expr(deep))
}

// leaving is a statement that leaves what it stands in, if it may.
func (m *maker) leaving() api.Node {
	anyway := m.pick(m.careless) == 0
	switch k := m.pick(5); {
	case k == 0 && (m.loop || anyway):
		return m.node(api.SBreak, "")
	case k == 1 && (m.loop || anyway):
		return m.node(api.SGo, "")
	case k == 2 && (m.within || anyway):
		return m.node(api.SReturn, "", m.exprs(0, 1, 0)...)
	case k == 3 && (!m.begin && !m.within || anyway):
		return m.node(api.SNext, "")
	}
	return m.node(api.SBlock, "")
}

// program is a program of f, g, h and others, in any order.
func (m *maker) program() api.Node {
	var items []api.Node
	for _, f := range [][]string{{"f", "p", "q"}, {"g", "q", "p"}, {"h", "r"}} {
		m.within = true
		n := m.node(api.IFunc, m.name(f[0]))
		for _, param := range f[1:] {
			n.P = append(n.P, m.name(param))
		}
		n.L = []api.Node{m.block(m.pick(4))}
		items = append(items, n)
		m.within = false
	}
	for range m.pick(5) {
		items = append(items, m.item())
	}
	for i := range items {
		j := m.pick(i + 1)
		items[i], items[j] = items[j], items[i]
	}
	return m.node(api.Program, "", items...)
}

// item is an item that is no function.
func (m *maker) item() api.Node {
	deep := m.pick(4)
	switch m.pick(6) {
	case 0, 1:
		m.begin = true
		n := m.node(api.IBegin+m.pick(2), "", m.block(deep))
		m.begin = false
		return n
	case 2:
		n := m.node(api.IKeep, "")
		for range 1 + m.pick(2) {
			n.P = append(n.P, m.name("a", "b", "c"))
		}
		return n
	case 3:
		return m.node(api.IRange, "1", m.expr(deep), m.expr(deep), m.block(deep))
	}
	return m.node(api.IRule, "11", m.expr(deep), m.block(deep))
}

// newMaker is one with random numbers.
func newMaker(r *rand.Rand) *maker { return &maker{pick: r.Intn, careless: 10 + 10*r.Intn(40)} }

// P14.2 to P14.5: random programs, as trees and as texts, are told as the second reckoning tells them.
func TestRandomPrograms(t *testing.T) {
	r := rand.New(rand.NewSource(1402))
	errors := map[api.Errno]int{}
	for range 8000 {
		n := newMaker(r).program()
		errors[holdSecond(t, n)]++
		s, e := show.Program(n)
		if e != api.OK {
			continue
		}
		errors[-1]++
		tree, _, _ := syntax.Parse(s)
		want, place, wrong := newSecond(tree).names()
		got, table, at, e := resolve.Program(s)
		if at != place || e != wrong || e == api.OK && (told(table) != want || !reflect.DeepEqual(got, tree)) || e != api.OK && (!isNone(table) || !reflect.DeepEqual(got, api.Node{})) {
			t.Fatalf("%q: %v, %d, %v, not %q, %d, %v", s, table, at, e, want, place, wrong)
		}
	}
	t.Log(errors)
	for _, e := range []api.Errno{-1, api.OK, api.ErrLong, api.ErrNone, api.ErrThere, api.ErrState, api.ErrName} {
		if errors[e] < 40 {
			t.Errorf("%v: only %d", e, errors[e])
		}
	}
}

// nodesOf are all nodes of n, to be changed.
func nodesOf(n *api.Node) []*api.Node {
	l := []*api.Node{n}
	for i := range n.L {
		l = append(l, nodesOf(&n.L[i])...)
	}
	return l
}

// spoil changes something of a tree.
func spoil(r *rand.Rand, n *api.Node) {
	l := nodesOf(n)
	x := l[r.Intn(len(l))]
	names := append(noNames(), "a", "b", "x", "p", "q", "f", "g", "h", "NR", "split")
	name := names[r.Intn(len(names))]
	switch r.Intn(7) {
	case 0:
		x.K = r.Intn(api.Nodes+3) - 1
	case 1:
		x.S = name
	case 2:
		x.P = append(slices.Clone(x.P), name)
	case 3:
		if len(x.P) > 0 {
			x.P = slices.Clone(x.P[1:])
		}
	case 4:
		if len(x.L) > 0 {
			x.L = slices.Clone(x.L[1:])
		}
	case 5:
		other := show.Strip(*l[r.Intn(len(l))])
		x.L = append(slices.Clone(x.L), other)
	case 6:
		other := show.Strip(*l[r.Intn(len(l))])
		*x = other
	}
}

// P14.2 to P14.5: of whatever tree it ends, without a panic, and as the second reckoning tells.
func TestSpoiled(t *testing.T) {
	r := rand.New(rand.NewSource(1403))
	errors := map[api.Errno]int{}
	for range 8000 {
		n := newMaker(r).program()
		for range 1 + r.Intn(3) {
			spoil(r, &n)
		}
		errors[holdSecond(t, n)]++
	}
	t.Log(errors)
}

// renamed is n with a name in the place of another one's, everywhere.
func renamed(n api.Node, from, to string) api.Node {
	switch n.K {
	case api.EVar, api.EIndex, api.EIn, api.SDelete, api.ECall, api.IFunc:
		if n.S == from {
			n.S = to
		}
	}
	n.P = slices.Clone(n.P)
	for i := range n.P {
		if n.P[i] == from {
			n.P[i] = to
		}
	}
	n.L = slices.Clone(n.L)
	for i := range n.L {
		n.L[i] = renamed(n.L[i], from, to)
	}
	return n
}

// P14.6: a name that is no one's, put in the place of another one's, changes nothing but that name in the table.
func TestRenamed(t *testing.T) {
	r := rand.New(rand.NewSource(1406))
	changed := 0
	for range 2000 {
		n := newMaker(r).program()
		table, at, e := resolve.Names(n)
		for _, from := range []string{"a", "b", "x", "p", "q", "r", "f", "g", "h"} {
			to := []string{"n", "_", strings.Repeat("n", 40), "nr", "BEGIN1"}[r.Intn(5)]
			again, at2, e2 := resolve.Names(renamed(n, from, to))
			if at2 != at || e2 != e {
				t.Fatalf("%+v: %q to %q: %d, %v, not %d, %v", n, from, to, at2, e2, at, e)
			}
			if e != api.OK {
				continue
			}
			if told(again) != told(table) {
				changed++
			}
			if renameTable(&again, to, from); told(again) != told(table) {
				t.Fatalf("%+v: %q to %q: %q, not %q", n, from, to, told(again), told(table))
			}
		}
	}
	if changed < 1000 {
		t.Error(changed)
	}
}

// renameTable puts a name in the place of another one's in a table.
func renameTable(t *api.Table, from, to string) {
	rename := func(l []string) {
		for i := range l {
			if l[i] == from {
				l[i] = to
			}
		}
	}
	rename(t.Vars)
	rename(t.Arrays)
	for i := range t.Funcs {
		rename(t.Funcs[i].Params)
		if t.Funcs[i].Name == from {
			t.Funcs[i].Name = to
		}
	}
}
