package compile_test

import (
	"math/rand"
	"reflect"
	"sort"
	"strconv"
	"strings"
	"testing"

	"auklet/api"
	"auklet/compile"
	"auklet/resolve"
	"auklet/samples"
	"auklet/show"
	"auklet/syntax"
)

// stmts is how many statements a tree has, by the kinds of its nodes.
func stmts(n api.Node) int {
	many := 0
	if api.SExpr <= n.K && n.K <= api.SDelete || n.K == api.IRule && n.S == "10" || n.K == api.IRange && n.S == "0" {
		many++
	}
	for _, part := range n.L {
		many += stmts(part)
	}
	return many
}

// holdImage holds the code of a tree that can be against all that is promised of it.
func holdImage(t *testing.T, m *compile.Image, n api.Node) {
	t.Helper()
	if m == nil {
		t.Fatalf("%+v: none", n)
	}
	if size, most := m.Size(), 20*syntax.Count(n)+100; size < 1 || size > most {
		t.Fatalf("%+v: %d instructions, not at most %d", n, size, most)
	}
	if m.Stmts() != stmts(n) {
		t.Fatalf("%+v: %d statements, not %d", n, m.Stmts(), stmts(n))
	}
	if !m.Check() {
		t.Fatalf("%+v: Check does not hold", n)
	}
	if s := m.List(); strings.Count(s, "\n") < m.Size() {
		t.Fatalf("%+v: a list of %d instructions: %q", n, m.Size(), s)
	}
	c := m.Code()
	if len(c.Ins) != m.Size() {
		t.Fatalf("%+v: %d instructions, not %d", n, len(c.Ins), m.Size())
	}
	times := map[api.Cell]int{}
	for _, v := range c.Consts {
		if times[v]++; times[v] > 1 {
			t.Fatalf("%+v: %v is there twice", n, v)
		}
	}
}

// hold holds Of of a text, and New of its tree, against resolve's answers, and tells the error.
func hold(t *testing.T, s string) api.Errno {
	t.Helper()
	n, table, place, wrong := resolve.Program(s)
	m, at, e := compile.Of(s)
	if at != place || e != wrong || (m == nil) != (wrong != api.OK) {
		t.Fatalf("Of(%q): %t, %d, %v, not %d, %v", s, m != nil, at, e, place, wrong)
	}
	if tree, _, no := syntax.Parse(s); no == api.OK {
		again, at, e := compile.New(tree)
		if at != place || e != wrong || (again == nil) != (wrong != api.OK) || e == api.OK && again.List() != m.List() {
			t.Fatalf("New of %q: %t, %d, %v, not %d, %v", s, again != nil, at, e, place, wrong)
		}
	}
	if e == api.OK {
		holdImage(t, m, n)
		if c := m.Code(); !reflect.DeepEqual(c.Table, table) {
			t.Fatalf("%q: %+v, not %+v", s, c.Table, table)
		}
	}
	return e
}

// P16.1: what is no program is none, with the place, and with which fault.
func TestRefused(t *testing.T) {
	for _, x := range []struct {
		s  string
		at int
		e  api.Errno
	}{
		{strings.Repeat(" ", 8001), 0, api.ErrLong}, {"{ " + strings.Repeat("a", 41) + " }", 2, api.ErrLong}, {strings.Repeat(";", 3000), 2999 + 1, api.ErrLong},
		{"{ print \"x }", 8, api.ErrShort}, {"{ x ~ /y }", 6, api.ErrShort}, {"{ @ }", 2, api.ErrForm}, {"x\x00", 1, api.ErrForm},
		{"{ print ) }", 8, api.ErrForm}, {"{", 1, api.ErrForm}, {"BEGIN", 5, api.ErrForm}, {"{ split(x, 1) }", 2, api.ErrForm}, {"persist a b", 10, api.ErrForm},
		{"{ x = 9223372036855 }", 6, api.ErrOver}, {"{ x = " + strings.Repeat("(", 202) + "1" + strings.Repeat(")", 202) + " }", 6 + 200, api.ErrLong},
		{"{ x = x[1] }", 2, api.ErrName}, {"{ NF[1] }", 2, api.ErrName}, {"function NR() { }", 0, api.ErrName}, {"persist FS", 0, api.ErrName}, {"function f(a) { a[1] }\n{ f(1) }", 27, api.ErrName},
		{"{ h(1) }", 2, api.ErrNone}, {"function f(a) { }\n{ f(1, 2) }", 20, api.ErrLong}, {"function f(a, a) { }", 0, api.ErrThere}, {"BEGIN { } function f() { }\nfunction f() { }", 27, api.ErrThere},
		{"{ break }", 2, api.ErrState}, {"BEGIN { next }", 8, api.ErrState}, {"{ return }", 2, api.ErrState}, {"function f() { next }", 15, api.ErrState}, {"{ while (x) y; continue }", 15, api.ErrState},
	} {
		if m, at, e := compile.Of(x.s); m != nil || e != x.e || at != x.at && len(x.s) < 100 {
			t.Errorf("Of(%q): %t, %d, %v, not %d, %v", x.s, m != nil, at, e, x.at, x.e)
		}
		hold(t, x.s)
	}
	for _, s := range []string{"", ";", "\n\n", "# x", strings.Repeat(" ", 8000), strings.Repeat(";", 2999), "{ " + strings.Repeat("a", 40) + " }", "BEGIN { x = 9223372036854.775807 }"} {
		if e := hold(t, s); e != api.OK {
			t.Errorf("%q: %v", s, e)
		}
	}
}

// P16.1 to P16.3: all short texts, of pieces that go together in many ways, are told as resolve tells them.
func TestAllShort(t *testing.T) {
	errors := map[api.Errno]int{}
	for _, s := range samples.Joined(5, "x", "[1]", "{ ", "} ", "; ", "(", ") ", "while ", "break ", "function f", "BEGIN ") {
		errors[hold(t, s)]++
	}
	for _, s := range samples.Joined(3, "{ x } ", "{ x[1] } ", "{ next } ", "{ return } ", "{ f(x) } ", "function f(p) { p } ", "function f(p) { p[1] } ", "function g(p) { f(p); return } ", "persist x\n", "x\n", "x, f(1)\n", "END { while (1) break } ") {
		errors[hold(t, s)]++
	}
	t.Log(errors)
	for _, e := range []api.Errno{api.OK, api.ErrForm, api.ErrName, api.ErrNone, api.ErrThere, api.ErrState} {
		if errors[e] < 10 {
			t.Errorf("%v: only %d", e, errors[e])
		}
	}
}

// P16.1: of any bytes there is an answer, and it is resolve's.
func TestAnyBytes(t *testing.T) {
	r := rand.New(rand.NewSource(1610))
	for range 20000 {
		hold(t, samples.Bytes(r.Intn, "xfNR012 \n;,+-*/%<>=!~?:$(){}[]\"\\#&|.@\x00\xff", 30))
	}
}

// P16.2: each statement counts once, wherever it stands, and each print that a rule or a range without a block has.
func TestStmts(t *testing.T) {
	for s, want := range map[string]int{
		"": 0, "{ print }": 2, "BEGIN { }": 1, "END { }": 1, "{ }": 1, "{ ; }": 2, "{ { } { { } } }": 4, "function f() { }": 1, "function f() { return }": 2, "function f() { return 1 }": 2,
		"persist a": 0, "persist a, b; persist c": 0, "x": 1, "x { }": 1, "x, y": 1, "x, y { }": 1, "x, y { z }": 2, "x\ny\n{ z }": 4, "x; y, z; BEGIN { }": 3,
		"{ x }": 2, "{ x = y = z++ + f(1) }\nfunction f(p) { }": 3, "{ x; y; z }": 4, "{ print x, y > z }": 2, "{ printf x }": 2, "{ if (x) y }": 3, "{ if (x) y; else z }": 4, "{ if (x) { y } else { z } }": 6, "{ if (x) ; else if (y) z; }": 5,
		"{ while (x) y }": 3, "{ while (x) { break; continue } }": 5, "{ do x; while (y) }": 3, "{ for (;;) break }": 3, "{ for (x; y; z) w }": 5, "{ for (x;;) ; }": 4, "{ for (; x;) ; }": 3, "{ for (;; x) ; }": 4, "{ for (print; ; delete a) { } }": 5,
		"{ for (k in a) x }": 3, "{ next }": 2, "{ exit }": 2, "{ exit x }": 2, "{ delete a; delete a[1] }": 3, "{ getline; getline x; length }": 4, "{ x && y || z ? 1 : 2 }": 2,
		"{ next; next; next }": 4, "{ exit; print; print }": 4, "{ for (;;) { break; print; continue; print } }": 7, "function f() { return; return }": 3,
	} {
		n, at, e := syntax.Parse(s)
		if e != api.OK {
			t.Fatalf("%q: %d, %v", s, at, e)
		}
		m, at, e := compile.New(n)
		if e != api.OK || at != 0 || m.Stmts() != want {
			t.Errorf("%q: %d, %v, %d statements, not %d", s, at, e, m.Stmts(), want)
			continue
		}
		hold(t, s)
	}
}

// largest is the greatest of the programs that are made of more and more, till they are too long.
func largest(t *testing.T, text func(many int) string) string {
	t.Helper()
	first := sort.Search(4000, func(many int) bool {
		_, _, e := syntax.Parse(text(many))
		return e == api.ErrLong
	})
	if first < 190 || first == 4000 || hold(t, text(first)) != api.ErrLong {
		t.Fatalf("%q: too long from %d on", text(1), first)
	}
	return text(first - 1)
}

// P16.2, P16.3: the longest and the deepest programs have code that is not too long, and sound.
func TestLargest(t *testing.T) {
	params := "p0"
	for i := range 19 {
		params += ", p" + strconv.Itoa(i+1)
	}
	const array, function = "function f(p) { p[1] }", "function f(p) { }"
	for _, x := range [][4]string{ // what is written once, again and again, once, again and again
		{"", "x, y\n"}, {"", "x\n"}, {"", "{}"}, {"", "BEGIN{}"}, {"", "END{}"}, {"{", ";", "}"}, {"{", "x;", "}"}, {"{ x", " x", " }"}, {"{ x = 1", " + 1", " }"}, {"persist x", ", x"},
		{"{", "getline;", "}"}, {"{", "getline x[1]<f;", "}"}, {"{", "getline<f;", "}"}, {"{", "for(;;);", "}"}, {"{", "for(x;x;x)x;", "}"}, {"{", "x[1];", "}"}, {"{", "x!~y;", "}"}, {"{ x", "||x", " }"}, {"{ x", "&&x", " }"}, {"{ x", " in a", " }"},
		{"function f(" + params + ") { }\n{", "f();", "}"}, {"function f(" + params + ") { }\n{ f()", "f()", " }"}, {array + "{", "f(a);", "}"}, {"{", "sub(x,x);", "}"}, {"{", "split(x,a);", "}"}, {"{", "length;", "}"}, {"{", "print;", "}"}, {"{", "exit;", "}"}, {function + "{ f(1", " 1", ")}"},
		{"{ ", "x = ", "x", ""}, {"{ ", "(", "x", ")"}, {"{ ", "x ? ", "x", " : x"}, {"{ ", "a[", "x", "]"}, {"{ ", "- ", "x", ""}, {"{ ", "!", "x", ""}, {"{ ", "{", "x", "}"}, {"{ ", "if (x) ", "x", ""}, {"{ ", "while (x) ", "x", ""}, {"{ ", "for (;;) ", "x", ""}, {"{ ", "do ", "x", ";while(x)"}, {"{ ", "for (k in a) ", "x", ""}, {function + "{ ", "f(", "x", ")"}, {"{ $", "(", "x", ")"},
	} {
		s := largest(t, func(many int) string {
			s := x[0] + strings.Repeat(x[1], many) + x[2] + strings.Repeat(x[3], many)
			return s + strings.Repeat(" }", strings.Count(s, "{")-strings.Count(s, "}"))
		})
		if e := hold(t, s); e != api.OK {
			t.Errorf("%q: %v", s[:100], e)
		}
	}
	s := largest(t, func(many int) string {
		s := "BEGIN { g() } function g() { }"
		for i := range many {
			s += "function f" + strconv.Itoa(i) + "() { f" + strconv.Itoa((i+7)%many) + "() }"
		}
		return s
	})
	if e := hold(t, s); e != api.OK {
		t.Error(e)
	}
}

// P16.2: List is the code as a text.
func TestList(t *testing.T) {
	for s, want := range map[string]string{
		"":          "BEGIN / 0 stop / no records / 1 stop / END / 2 stop",
		"{ print }": "BEGIN / 0 stop / records / 1 stmt / 2 stmt / 3 print \"\" 0 / 4 stop / END / 5 stop",
		"persist a, b\nEND { a[$1, \"k\"] += 2.5 }\nBEGIN { next_ }":        "persist a / persist b / BEGIN / 0 stmt / 1 stmt / 2 load next_ / 3 pop / 4 stop / records / 5 stop / END / 6 stmt / 7 stmt / 8 push 2.5 / 9 push 1 / 10 load $ / 11 push \"k\" / 12 key 2 / 13 assign \"+\" a[] / 14 pop / 15 stop",
		"x, y\nz { f(b, x) }\nfunction f(p, q) { while (q--) delete p[q] }": "BEGIN / 0 stop / records / 1 inside 0 5 / 2 load x / 3 jumpunless 10 / 4 enter 0 / 5 load y / 6 jumpunless 8 / 7 leave 0 / 8 stmt / 9 print \"\" 0 / 10 load z / 11 jumpunless 18 / 12 stmt / 13 stmt / 14 array b[] / 15 load x / 16 call f 2 / 17 pop / 18 stop / END / 19 stop / function f(p[], q) / 20 stmt / 21 stmt / 22 step \"x--\" q / 23 jumpunless 29 / 24 stmt / 25 load q / 26 key 1 / 27 delete p[] / 28 jump 22 / 29 push nothing / 30 return",
	} {
		m, at, e := compile.Of(s)
		if got := strings.ReplaceAll(strings.TrimSuffix(m.List(), "\n"), "\n", " / "); got != want || at != 0 || e != api.OK {
			t.Errorf("%q: %q, not %q", s, got, want)
		}
	}
}

// blanked is a text with other blanks and remarks between its tokens, of which the tree is the same but for places.
func blanked(s string) string {
	return "# a remark\n" + strings.NewReplacer("{ ", "{\t # a \" remark\n\n ", "; ", "\t;  ", " = ", "=", ", ", ",\n # another\n").Replace(s) + " # the last"
}

// P16.4: List hangs on the tree alone, but for places: so does all the code.
func TestListOfTree(t *testing.T) {
	r := rand.New(rand.NewSource(1604))
	g := programs()
	shown := 0
	for range 2000 {
		s, n := random(t, r.Intn, g)
		m, at, e := compile.Of(s)
		if at != 0 || e != api.OK {
			t.Fatalf("%q: %d, %v", s, at, e)
		}
		holdImage(t, m, n)
		list := m.List()
		if again := m.List(); again != list {
			t.Fatalf("%q: told again: %q, not %q", s, again, list)
		}
		others := []api.Node{n, show.Strip(n), moved(r.Intn, n)}
		if text, e := show.Program(n); e == api.OK {
			shown++
			for _, text := range []string{text, blanked(text)} {
				tree, at, e := syntax.Parse(text)
				if e != api.OK || !show.Same(tree, n) {
					t.Fatalf("%q: %d, %v", text, at, e)
				}
				others = append(others, tree)
			}
		}
		for _, other := range others {
			same, at, e := compile.New(other)
			if at != 0 || e != api.OK || same.List() != list || !reflect.DeepEqual(same.Code(), m.Code()) {
				t.Fatalf("%q: %d, %v: %q, not %q", s, at, e, same.List(), list)
			}
		}
	}
	if shown < 1000 {
		t.Error(shown)
	}
}

// moved is n with other places.
func moved(pick func(n int) int, n api.Node) api.Node {
	n.At = pick(10000)
	l := n.L
	n.L = nil
	for _, part := range l {
		n.L = append(n.L, moved(pick, part))
	}
	return n
}

// P16.4: trees that are not the same, also by a name, a number or a text alone, have other lists.
func TestListOfOthers(t *testing.T) {
	lists := map[string]string{}
	for _, s := range []string{
		"", "persist a", "persist b", "persist a, b", "persist b, a", "BEGIN { }", "END { }", "{ }", "{ } { }", "BEGIN { } { }", "x", "y", "NR", "x, y", "y, x", "x, y { }", "x { }", "function f() { }", "function g() { }", "function f(p) { }", "function f(q) { }", "function f(p, q) { }", "function f(p) { p[1] }", "function f(p) { q[1] }",
		"{ 1 }", "{ 2 }", "{ \"1\" }", "{ \"\" }", "{ \"a\\n\" }", "{ \"an\" }", "{ /1/ }", "{ /2/ }", "{ x }", "{ y }", "{ x[1] }", "{ y[1] }", "{ x[1, 2] }", "{ x[1 2] }", "{ $1 }", "{ x = 1 }", "{ x += 1 }", "{ x -= 1 }", "{ x++ }", "{ ++x }", "{ x-- }", "{ --x }", "{ x < y }", "{ y < x }", "{ x <= y }", "{ x - y }", "{ x * y }", "{ x y }", "{ -x }", "{ +x }", "{ !x }",
		"{ x ? y : z }", "{ x ? z : y }", "{ x && y }", "{ x || y }", "{ x in a }", "{ x in b }", "{ (x, y) in a }", "{ x ~ y }", "{ x !~ y }", "{ x ~ /y/ }", "{ x ~ \"z\" }", "{ length }", "{ length(x) }", "{ index(x, y) }", "{ tolower(x) }", "{ toupper(x) }", "{ sprintf(x) }", "{ sprintf(x, y) }", "{ sub(x, y) }", "{ gsub(x, y) }", "{ sub(x, y, z) }", "{ match(x, y) }", "{ split(x, a) }", "{ split(x, a, y) }", "{ split(x, a, /y/) }", "{ split(x, a, \"y\") }", "{ sync() }",
		"{ getline }", "{ getline x }", "{ getline < x }", "{ getline x < y }", "{ print }", "{ print x }", "{ print x, y }", "{ print > x }", "{ print >> x }", "{ print x > y }", "{ printf x }", "{ printf x > y }", "{ if (x) y }", "{ if (x) y; else z }", "{ while (x) y }", "{ do y; while (x) }", "{ for (;;) y }", "{ for (y;;) ; }", "{ for (;; y) ; }", "{ for (k in a) ; }", "{ for (i in a) ; }", "{ for (k in b) ; }", "{ while (x) break }", "{ while (x) continue }", "{ next }", "{ exit }", "{ exit 1 }", "{ delete a }", "{ delete a[1] }",
	} {
		m, at, e := compile.Of(s)
		if e != api.OK {
			t.Fatalf("%q: %d, %v", s, at, e)
		}
		list := m.List()
		if other, there := lists[list]; there {
			t.Errorf("%q and %q: %q", s, other, list)
		}
		lists[list] = s
	}
}

// scribble writes over all nodes of a tree.
func scribble(n *api.Node) {
	for i := range n.L {
		scribble(&n.L[i])
	}
	for i := range n.P {
		n.P[i] = "zz"
	}
	*n = api.Node{K: api.EVar, S: "zz"}
}

// A tree that is handed in is neither changed nor kept; what an image tells is new memory.
func TestMemory(t *testing.T) {
	const s = "persist a, b; x, y { z = a[1]; for (k in b) \"s\" ~ /r/ } function f(p, q) { p[q]; f(p) } BEGIN { f(a, 2) }"
	n, _, _ := syntax.Parse(s)
	same, _, _ := syntax.Parse(s)
	m, _, _ := compile.New(n)
	if !reflect.DeepEqual(n, same) {
		t.Error("the tree was changed")
	}
	list, code := m.List(), m.Code()
	scribble(&n)
	other := m.Code()
	clear(other.Ins[:cap(other.Ins)])
	clear(other.Consts[:cap(other.Consts)])
	clear(other.Funcs[:cap(other.Funcs)])
	for _, f := range other.Table.Funcs {
		clear(f.Params[:cap(f.Params)])
		clear(f.Array[:cap(f.Array)])
	}
	clear(other.Table.Funcs[:cap(other.Table.Funcs)])
	clear(other.Table.Vars[:cap(other.Table.Vars)])
	clear(other.Table.Arrays[:cap(other.Table.Arrays)])
	clear(other.Table.Keep[:cap(other.Table.Keep)])
	again, _, _ := compile.Of(s)
	if m.List() != list || again.List() != list || !reflect.DeepEqual(m.Code(), code) || !reflect.DeepEqual(again.Code(), code) {
		t.Errorf("%q, not %q", m.List(), list)
	}
}

// Of whatever tree, also of one that no text has, New ends without a panic, and so does all that its image tells.
func TestAnyTree(t *testing.T) {
	r := rand.New(rand.NewSource(1605))
	g := programs()
	made := 0
	for range 8000 {
		_, n := random(t, r.Intn, g)
		n = moved(r.Intn, n)
		for range 1 + r.Intn(4) {
			spoil(r.Intn, &n)
		}
		_, place, wrong := resolve.Names(n)
		m, at, e := compile.New(n)
		if at != place || e != wrong || (m == nil) != (wrong != api.OK) {
			t.Fatalf("%+v: %t, %d, %v, not %d, %v", n, m != nil, at, e, place, wrong)
		}
		if m != nil {
			made++
			m.Size()
			m.Stmts()
			m.Check()
			m.List()
			m.Code()
		}
	}
	if made < 3000 {
		t.Error(made)
	}
	leaving := api.Node{K: api.IRule, S: "01", L: []api.Node{{K: api.SBlock, L: []api.Node{{K: api.SBreak}, {K: api.SGo}}}}}
	for k := -1; k <= api.Nodes; k++ {
		for _, n := range []api.Node{{K: k}, {K: k, L: []api.Node{leaving}}, {K: api.Program, L: []api.Node{{K: k, L: []api.Node{leaving}}}}, {K: k, S: "1", L: []api.Node{{K: k}}}, {K: api.Program, L: []api.Node{{K: k}}}, {K: api.Program, L: []api.Node{{K: api.IRule, S: "11", L: []api.Node{{K: k}}}}}} {
			if m, _, e := compile.New(n); (m == nil) != (e != api.OK) {
				t.Errorf("%+v: %v", n, e)
			} else if m != nil {
				m.Check()
				m.List()
			}
		}
	}
}

// nodes are all nodes of n, to be changed.
func nodes(n *api.Node) []*api.Node {
	l := []*api.Node{n}
	for i := range n.L {
		l = append(l, nodes(&n.L[i])...)
	}
	return l
}

// spoil changes something of a tree.
func spoil(pick func(n int) int, n *api.Node) {
	l := nodes(n)
	x, other := l[pick(len(l))], moved(pick, *l[pick(len(l))])
	switch pick(6) {
	case 0:
		x.K = pick(api.Nodes+3) - 1
	case 1:
		x.S = []string{"", "x", "a", "f", "=", "1", "11", "0101", "111", "v", "f", "split", "sub", "length", ">"}[pick(15)]
	case 2:
		x.L = nil
	case 3:
		x.L = append(x.L, other)
	case 4:
		x.P = [][]string{nil, {"x"}, {"x", "a"}, {"x", "a", "b"}}[pick(4)]
	case 5:
		*x = other
	}
}
