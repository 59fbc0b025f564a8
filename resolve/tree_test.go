package resolve_test

import (
	"math"
	"reflect"
	"slices"
	"strconv"
	"strings"
	"testing"
	"time"

	"auklet/api"
	"auklet/lex"
	"auklet/resolve"
	"auklet/syntax"
)

// noNames are texts that are no names.
func noNames() []string {
	return []string{"", "1", "1a", "a b", " a", "a ", "é", "a\xff", "a(", "[", "$a", "BEGIN", "if", "in", "persist", "function", "length", "split", "sync", strings.Repeat("a", 41), strings.Repeat("a", 1000)}
}

// node is a node of a kind and a name, at a place, of parts.
func node(k int, s string, at int, l ...api.Node) api.Node { return api.Node{K: k, S: s, At: at, L: l} }

// named is a node of a kind, with names.
func named(k int, s string, at int, names []string, l ...api.Node) api.Node {
	return api.Node{K: k, S: s, At: at, P: names, L: l}
}

// variable is a variable at a place.
func variable(s string, at int) api.Node { return node(api.EVar, s, at) }

// whole is a program of items.
func whole(items ...api.Node) api.Node { return node(api.Program, "", 0, items...) }

// rule is a program of one rule of statements.
func rule(l ...api.Node) api.Node {
	return whole(node(api.IRule, "01", 0, node(api.SBlock, "", 0, l...)))
}

// holdTree holds Names against the table of a tree as a text.
func holdTree(t *testing.T, n api.Node, want string) {
	t.Helper()
	if table, at, e := resolve.Names(n); told(table) != want || at != 0 || e != api.OK {
		t.Errorf("Names(%+v): %q, %d, %v, not %q", n, told(table), at, e, want)
	}
}

// refusedTree holds Names against an error of a tree.
func refusedTree(t *testing.T, n api.Node, place int, want api.Errno) {
	t.Helper()
	if table, at, e := resolve.Names(n); !isNone(table) || at != place || e != want {
		t.Errorf("Names(%+v): %v, %d, %v, not %d, %v", n, table, at, e, place, want)
	}
}

// P14.3: what is no name is none of anything, wherever it stands.
func TestNoNames(t *testing.T) {
	one := node(api.ENum, "", 5)
	for _, s := range noNames() {
		refusedTree(t, whole(named(api.IFunc, s, -7, nil)), -7, api.ErrName)
		refusedTree(t, whole(named(api.IFunc, s, 7, make([]string, 21))), 7, api.ErrName)
		refusedTree(t, whole(named(api.IFunc, "f", 8, []string{"p", s})), 8, api.ErrName)
		refusedTree(t, whole(named(api.IFunc, "f", 8, []string{s, "p", s})), 8, api.ErrThere)
		refusedTree(t, whole(named(api.IKeep, "", 9, []string{"a", s})), 9, api.ErrName)
		refusedTree(t, rule(variable(s, 3)), 3, api.ErrName)
		refusedTree(t, rule(node(api.EIndex, s, 3, one)), 3, api.ErrName)
		refusedTree(t, rule(node(api.EIn, s, 3, one)), 3, api.ErrName)
		refusedTree(t, rule(node(api.SDelete, s, 3)), 3, api.ErrName)
		refusedTree(t, rule(named(api.SEach, "", math.MaxInt, []string{"k", s}, one)), math.MaxInt, api.ErrName)
		refusedTree(t, rule(named(api.SEach, "", math.MinInt, []string{s, "a"}, one)), math.MinInt, api.ErrName)
		refusedTree(t, rule(node(api.EOwn, "split", 3, one, variable(s, 4))), 4, api.ErrName)
		refusedTree(t, rule(node(api.ECall, s, 3)), 3, api.ErrNone)
		array := named(api.IFunc, "f", 1, []string{"p"}, node(api.SDelete, "p", 2))
		refusedTree(t, whole(array, node(api.ECall, "f", 3, variable(s, 4))), 4, api.ErrName)
		refusedTree(t, whole(array, named(api.IFunc, "f", 6, []string{s, s})), 6, api.ErrThere)
		holdTree(t, rule(named(api.EStr, s, 3, []string{s}), node(api.ERegex, s, 4), named(api.SExpr, s, 4, []string{s, s})), "; ; ")
	}
	for _, s := range []string{"_", "a1_", "Nr", "BEGIN_", strings.Repeat("Z", 40)} {
		holdTree(t, rule(variable(s, 3)), s+"; ; ")
		holdTree(t, whole(named(api.IKeep, "", 9, []string{s})), "; "+s+"!; ")
		holdTree(t, whole(named(api.IFunc, s, 9, []string{"p"})), "; ; "+s+"(p)")
		holdTree(t, whole(named(api.IFunc, "f", 9, []string{s})), "; ; f("+s+")")
	}
}

// P14.2, P14.3: a for through an array that has not just two names has none.
func TestOtherEach(t *testing.T) {
	for _, names := range [][]string{nil, {}, {"NR"}, {"x"}, {"1"}, {"k", "NR", "x"}, {"x", "a", "a"}, {"a", "x", "a", "x"}, {"", "", ""}} {
		each := named(api.SEach, "S", 3, names, node(api.SBreak, "", 4), variable("z", 5))
		holdTree(t, rule(variable("a", 1), variable("k", 2), each, node(api.EIndex, "x", 6)), "a k z; x; ")
		if l := resolve.Uses(each); !slices.Equal(l, []string{"z"}) {
			t.Errorf("Uses of for with %q: %q", names, l)
		}
	}
	refusedTree(t, rule(named(api.SEach, "", 3, []string{"x", "x"})), 3, api.ErrName)
	refusedTree(t, rule(named(api.SEach, "", 3, []string{"NR", "NR"})), 3, api.ErrName)
	holdTree(t, rule(named(api.SEach, "1", 3, []string{"NR", "a"})), "; a; ")
}

// P14.2: of split just the second part, and just a name, stands as an array; of other functions none does.
func TestOtherSplits(t *testing.T) {
	x, y, z := variable("x", 1), variable("y", 2), variable("z", 3)
	for _, row := range []struct {
		n    api.Node
		want string
	}{
		{node(api.EOwn, "split", 0), "; ; "}, {node(api.EOwn, "split", 0, x), "x; ; "}, {node(api.EOwn, "split", 0, x, y), "x; y; "}, {node(api.EOwn, "split", 0, x, y, z, z), "x z; y; "},
		{node(api.EOwn, "split", 0, x, node(api.EStr, "y", 1), z), "x z; ; "}, {node(api.EOwn, "split", 0, x, node(api.EField, "", 1, y), z), "x y z; ; "}, {node(api.EOwn, "split", 0, x, node(api.EIndex, "y", 1, z), z), "x z; y; "},
		{node(api.EOwn, "sub", 0, x, y, z), "x y z; ; "}, {node(api.EOwn, "", 0, x, y), "x y; ; "}, {node(api.EOwn, "Split", 0, x, y), "x y; ; "}, {node(api.SExpr, "split", 0, x, y), "x y; ; "}, {node(api.ECat, "split", 0, x, y), "x y; ; "},
	} {
		holdTree(t, rule(row.n), row.want)
		holdTree(t, row.n, row.want)
	}
	split := named(api.IFunc, "f", 0, []string{"p", "q"}, node(api.EOwn, "f", 3, variable("p", 4), variable("q", 5)), node(api.SDelete, "q", 6))
	refusedTree(t, whole(split), 5, api.ErrName)
	refusedTree(t, whole(named(api.IFunc, "split2", 0, nil), node(api.ECall, "split", 3, x, y)), 3, api.ErrNone)
}

// P14.2 to P14.4: a part of a program is gone through as a program is, also one that no text has.
func TestParts(t *testing.T) {
	x := variable("x", 4)
	holdTree(t, api.Node{}, "; ; ")
	holdTree(t, whole(), "; ; ")
	holdTree(t, x, "x; ; ")
	holdTree(t, node(api.EIndex, "x", 4, variable("y", 5)), "y; x; ")
	holdTree(t, node(api.SNext, "", 4), "; ; ")
	holdTree(t, named(api.IKeep, "", 4, []string{"b", "a"}), "; b! a!; ")
	holdTree(t, named(api.IKeep, "", 4, nil), "; ; ")
	holdTree(t, named(api.IFunc, "f", 4, []string{"p"}, node(api.ECall, "f", 5, variable("p", 6)), node(api.SReturn, "", 7)), "; ; f(p)")
	for _, k := range []int{-1, math.MinInt, api.Nodes, math.MaxInt} {
		holdTree(t, named(k, "1", 0, []string{"NR", "2"}, x), "x; ; ")
	}
	refusedTree(t, variable("NR ", 4), 4, api.ErrName)
	refusedTree(t, node(api.SBreak, "", 4), 4, api.ErrState)
	refusedTree(t, node(api.SGo, "", 4), 4, api.ErrState)
	refusedTree(t, node(api.SReturn, "", 4), 4, api.ErrState)
	refusedTree(t, node(api.ECall, "f", 4), 4, api.ErrNone)
	refusedTree(t, named(api.IKeep, "", 4, []string{"NR"}), 4, api.ErrName)
	refusedTree(t, node(api.IBegin, "", 3, node(api.SNext, "", 4)), 4, api.ErrState)
	refusedTree(t, node(api.SWhile, "", 3, named(api.IFunc, "f", 0, nil, node(api.SBreak, "", 4))), 4, api.ErrState) // it is in no loop of the same function
	holdTree(t, named(api.IFunc, "f", 0, []string{"p"}, node(api.SBlock, "", 1), variable("p", 2)), "; ; f(p)")
	within := named(api.IFunc, "g", 5, []string{"q"}, node(api.SDelete, "p", 6), variable("q", 7), variable("r", 8))
	holdTree(t, whole(named(api.IFunc, "f", 0, []string{"p", "q"}, within, node(api.SDelete, "q", 9)), variable("p", 10)), "r p; ; f(p[] q[]) g(q)")
}

// P14.5: the names that stand, each once, as they come; not those of functions, nor of parameters that stand nowhere.
func TestUses(t *testing.T) {
	for s, want := range map[string]string{
		"": "", "{}": "", "{ 1; \"a\"; /b/; $1; length; f(2); next }": "", "{ z; y; x; z; y }": "z y x", "{ x[1] = y }": "x y", "{ x[y[z]] = x }": "x y z", "{ y in x && z }": "x y z", "{ (a, b) in c in d }": "d c a b",
		"{ NR; NF[1]; $RS }": "NR NF RS", "{ for (k in a) { b; k } }": "k a b", "{ for (b in b) a }": "b a", "{ for (x; y; z) w }": "x y z w", "{ delete x; delete y[z] }": "x y z", "{ split(a, b, c) }": "a b c", "{ split(a[b], a) }": "a b",
		"{ getline x < y; getline z[w] }": "x y z w", "persist a, b, a; persist c": "a b c", "{ b } persist a, b": "b a", "persist b\n{ a[b] }": "b a", "{ f(x, y[z], f(w)) }": "x y z w",
		"function f(p, q, r) { q; s; p[1] }": "q s p", "function f(x) { x } { x }": "x", "function f() { f; g() } { f }": "f", "{ break; x; x[1]; NR[1]; g(x) } function x() {} function x() {}": "x NR",
		"x, y { z } BEGIN { w } END { v }": "x y z w v", "{ print a, b > c; printf d > d; exit e }": "a b c d e", "{ sub(a, b, c); x += y; z ? w : v }": "a b c x y z w v",
	} {
		n, at, e := syntax.Parse(s)
		if l := resolve.Uses(n); e != api.OK || strings.Join(l, " ") != want {
			t.Errorf("Uses of %q: %q, not %q (%d, %v)", s, l, want, at, e)
		}
	}
	for s, want := range map[string]string{"x": "x", "1": "", "x[y]": "x y", "z + f(x)": "z x", "(y in x) y": "x y"} {
		if n, _, e := syntax.Expr(s); e != api.OK || strings.Join(resolve.Uses(n), " ") != want {
			t.Errorf("Uses of %q: %q, not %q", s, resolve.Uses(n), want)
		}
	}
	for _, s := range noNames() {
		for _, n := range []api.Node{variable(s, 1), node(api.EIndex, s, 1), node(api.EIn, s, 1), node(api.SDelete, s, 1), named(api.SEach, "", 1, []string{s, s}), named(api.IKeep, "", 1, []string{s, s})} {
			if l := resolve.Uses(n); !slices.Equal(l, []string{s}) {
				t.Errorf("Uses of %q: %q", s, l)
			}
		}
	}
	if l := resolve.Uses(api.Node{}); len(l) != 0 {
		t.Errorf("Uses of nothing: %q", l)
	}
}

// scribble writes over all lists of a table, and behind them.
func scribble(t *api.Table) {
	names := func(l []string) {
		for i := range l[:cap(l)] {
			l[:cap(l)][i] = "zz"
		}
	}
	flags := func(l []bool) {
		for i := range l[:cap(l)] {
			l[:cap(l)][i] = !l[:cap(l)][i]
		}
	}
	names(t.Vars)
	names(t.Arrays)
	flags(t.Keep)
	for _, f := range t.Funcs {
		names(f.Params)
		flags(f.Array)
	}
	clear(t.Funcs[:cap(t.Funcs)])
}

// A tree that is handed in isn't changed, and an answer is new memory: what is written over one answer is in no other one, and in no other list of it.
func TestMemory(t *testing.T) {
	const s = "persist a, b; { x = y; a[1]; c[x] } function f(p, q) { p[q] } function g(r) { f(r) } function h(p) { p }"
	const want = "x y; a! b! c; f(p[] q) g(r[]) h(p)"
	tree, _, _ := syntax.Parse(s)
	spare := append(make([]string, 0, 8), tree.L[2].P...)
	tree.L[2].P = spare
	copied, _, _ := syntax.Parse(s)
	for range 3 {
		table, _, _ := resolve.Names(tree)
		if told(table) != want {
			t.Fatal(told(table))
		}
		uses := resolve.Uses(tree)
		if strings.Join(uses, " ") != "a b x y c p q r" {
			t.Fatal(uses)
		}
		uses = uses[:cap(uses)]
		for i := range uses {
			uses[i] = "zz"
		}
		if told(table) != want {
			t.Error("Uses shares memory", told(table))
		}
		scribble(&table)
		if !reflect.DeepEqual(tree, copied) || strings.Join(spare[:8], "") != "pq" {
			t.Error("the tree was changed")
		}
	}
	table, _, _ := resolve.Names(tree)
	for i := range table.Funcs[0].Params[:cap(table.Funcs[0].Params)] {
		table.Funcs[0].Params[:cap(table.Funcs[0].Params)][i] = "zz"
	}
	if table.Funcs[0].Params = []string{"p", "q"}; told(table) != want {
		t.Error("two functions share memory", told(table))
	}
	n, table, _, _ := resolve.Program(s)
	scribble(&table)
	if !reflect.DeepEqual(n, copied) {
		t.Error("Program's answers share memory")
	}
	tree.L[2].P[0] = "other"
	if table, _, _ := resolve.Names(copied); told(table) != want {
		t.Error("a tree was kept", told(table))
	}
}

// All ends soon, also of trees that are very deep or wide, and where arrays are handed on far.
func TestLarge(t *testing.T) {
	begin := time.Now()
	deep := node(api.EIndex, "x", 1)
	for range 1 << 16 {
		deep = node(api.SWhile, "", 0, deep)
	}
	holdTree(t, deep, "; x; ")
	if l := resolve.Uses(deep); !slices.Equal(l, []string{"x"}) {
		t.Error(l)
	}
	const many = 20000
	name := func(i int) string { return "f" + strconv.Itoa(i) }
	for _, forward := range []bool{true, false} {
		var items []api.Node
		for i := range many {
			to := node(api.ECall, name(i+1), 0, variable("p", 0))
			if i == many-1 {
				to = node(api.SDelete, "p", 0)
			}
			items = append(items, named(api.IFunc, name(i), 0, []string{"p"}, to))
		}
		if !forward {
			slices.Reverse(items)
		}
		table, at, e := resolve.Names(whole(append(items, node(api.ECall, "f0", 0, variable("x", 0)))...))
		if at != 0 || e != api.OK || !slices.Equal(table.Arrays, []string{"x"}) || len(table.Funcs) != many {
			t.Fatal(at, e, table.Arrays)
		}
		for _, f := range table.Funcs {
			if !f.Array[0] {
				t.Fatal(f)
			}
		}
	}
	var wide []api.Node
	for i := range 200000 {
		wide = append(wide, variable("v"+strconv.Itoa(i%1000), i))
	}
	if table, _, e := resolve.Names(rule(wide...)); e != api.OK || len(table.Vars) != 1009 || table.Vars[1008] != "v999" {
		t.Error(e, len(table.Vars))
	}
	if since := time.Since(begin); since > 20*time.Second {
		t.Error(since)
	}
}

// P14.3: each name that lex knows can be a function, a parameter, an array or a variable; no other one can.
func TestAllShortNames(t *testing.T) {
	for a := range 256 {
		for _, b := range []string{"", "_", "9", "-", "N"} {
			s := string([]byte{byte(a)}) + b
			_, _, e := resolve.Names(rule(variable(s, 0)))
			_, _, e2 := resolve.Names(whole(named(api.IFunc, s, 0, []string{"p"})))
			_, _, e3 := resolve.Names(whole(named(api.IFunc, "ff", 0, []string{s})))
			_, _, e4 := resolve.Names(whole(named(api.IKeep, "", 0, []string{s})))
			if is := lex.Name(s); (e == api.OK) != is || (e2 == api.OK) != (is && s != "p") || (e3 == api.OK) != is || (e4 == api.OK) != is {
				t.Errorf("%q: %v, %v, %v, %v", s, e, e2, e3, e4)
			}
		}
	}
}
