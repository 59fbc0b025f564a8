package resolve_test

import (
	"reflect"
	"slices"
	"strconv"
	"strings"
	"testing"

	"auklet/api"
	"auklet/resolve"
	"auklet/syntax"
)

// specials are the names that the language sets.
const specials = "NR NF FS OFS ORS RS SUBSEP RSTART RLENGTH"

// told is a table as a text: the variables behind the special ones; the arrays, with ! behind those that are kept; the functions, with [] behind parameters that are arrays.
func told(t api.Table) string {
	special := strings.Fields(specials)
	if len(t.Vars) < len(special) || !slices.Equal(t.Vars[:len(special)], special) || len(t.Keep) != len(t.Arrays) {
		return "no table: " + strings.Join(t.Vars, " ") + " / " + strings.Join(t.Arrays, " ") + " / " + strconv.Itoa(len(t.Keep))
	}
	var arrays, funcs []string
	for i, name := range t.Arrays {
		arrays = append(arrays, name+map[bool]string{true: "!"}[t.Keep[i]])
	}
	for _, f := range t.Funcs {
		if len(f.Array) != len(f.Params) {
			return "no function: " + f.Name
		}
		var params []string
		for i, name := range f.Params {
			params = append(params, name+map[bool]string{true: "[]"}[f.Array[i]])
		}
		funcs = append(funcs, f.Name+"("+strings.Join(params, " ")+")")
	}
	return strings.Join(t.Vars[len(special):], " ") + "; " + strings.Join(arrays, " ") + "; " + strings.Join(funcs, " ")
}

// row is a program, and its table as a text.
type row struct{ s, want string }

// hold holds Program, and Names of syntax's tree, against rows: all of these are programs.
func hold(t *testing.T, rows []row) {
	t.Helper()
	for _, x := range rows {
		tree, _, wrong := syntax.Parse(x.s)
		n, table, at, e := resolve.Program(x.s)
		if wrong != api.OK || e != api.OK || at != 0 || !reflect.DeepEqual(n, tree) || told(table) != x.want {
			t.Errorf("Program(%q): %v, %q, %d, %v, not %q", x.s, wrong, told(table), at, e, x.want)
		}
		if table, at, e := resolve.Names(tree); told(table) != x.want || at != 0 || e != api.OK {
			t.Errorf("Names of %q: %q, %d, %v", x.s, told(table), at, e)
		}
	}
}

// isNone tells whether a table is the zero one.
func isNone(t api.Table) bool {
	return t.Vars == nil && t.Arrays == nil && t.Keep == nil && t.Funcs == nil
}

// refused holds Program and Names against texts that are one error, at the place of the sign @ (which is left out).
func refused(t *testing.T, want api.Errno, texts ...string) {
	t.Helper()
	for _, marked := range texts {
		place := strings.Index(marked, "@")
		s := strings.Replace(marked, "@", "", 1)
		tree, _, wrong := syntax.Parse(s)
		n, table, at, e := resolve.Program(s)
		if wrong != api.OK || e != want || at != place || !isNone(table) || !reflect.DeepEqual(n, api.Node{}) {
			t.Errorf("Program(%q): %v, %v, %d, %v, not %d, %v", s, wrong, table, at, e, place, want)
		}
		if table, at, e := resolve.Names(tree); e != want || at != place || !isNone(table) {
			t.Errorf("Names of %q: %v, %d, %v", s, table, at, e)
		}
	}
}

// P14.1: the nine names have their places, all others, however near, have -1.
func TestSpecial(t *testing.T) {
	names := strings.Fields(specials)
	for i, s := range names {
		if resolve.Special(s) != i {
			t.Errorf("%q: %d, not %d", s, resolve.Special(s), i)
		}
		for _, near := range []string{s + "x", s + " ", " " + s, s[1:], s[:len(s)-1], strings.ToLower(s), s + s, s + "\x00"} {
			if resolve.Special(near) != slices.Index(names, near) {
				t.Errorf("%q: %d", near, resolve.Special(near))
			}
		}
	}
	for _, s := range []string{"", "x", "FNR", "FILENAME", "ENVIRON", "ARGC", "ARGV", "CONVFMT", "OFMT", "BEGIN", "length", "RT", specials} {
		if resolve.Special(s) != -1 {
			t.Errorf("%q: %d", s, resolve.Special(s))
		}
	}
}

// P14.2, P14.4: what stands as an array, and what as a variable; each once, in the order in which they first stand.
func TestTable(t *testing.T) {
	hold(t, []row{
		{"", "; ; "}, {"{}", "; ; "}, {"{ 1; \"a\"; /b/; $1; length }", "; ; "}, {"{ print NR, NF, FS, OFS, ORS, RS, SUBSEP, RSTART, RLENGTH }", "; ; "}, {"{ RLENGTH = NR; x = NF }", "x; ; "},
		{"{ x[1] = y }", "y; x; "}, {"{ x = y; y = x; z }", "x y z; ; "}, {"{ z; y; x; z }", "z y x; ; "},
		{"x { y } z, w { v }", "x y z w v; ; "}, {"x; y[z]", "x z; y; "}, {"BEGIN { b } END { e } BEGIN { a } r", "b e a r; ; "},
		{"{ x[y[z]] = v }", "z v; x y; "}, {"{ x[a, b, c[d]] }", "a b d; x c; "}, {"{ y in x && z }", "y z; x; "}, {"{ (a, b[c]) in x in y }", "a c; y x b; "},
		{"{ delete x }", "; x; "}, {"{ delete x[y[z]] }", "z; x y; "}, {"{ delete y; delete x; y[1] }", "; y x; "},
		{"{ for (k in a) b }", "k b; a; "}, {"{ for (b in a) for (c in a) d[b, c] }", "b c; a d; "}, {"{ for (NF in a); }", "; a; "}, {"{ for (x; y; z) w }", "x y z w; ; "}, {"{ for (;; z) w }", "z w; ; "},
		{"{ split(s, p) }", "s; p; "}, {"{ split(p, s, q) }", "p q; s; "}, {"{ split(x[1], x, /y/) }", "; x; "}, {"{ split(split(a, b), c) }", "a; b c; "}, {"{ split(s, (p)) }", "s; p; "}, {"{ split(\"s\", p, p[1]) }", "; p; "},
		{"{ substr(a, b, c); sub(d, e, f); index(g, h); match(i, j); sprintf(k, l); sub(m, n) }", "a b c d e f g h i j k l m n; ; "}, {"{ gsub(/a/, \"b\", x[i]) }", "i; x; "},
		{"{ getline x; getline y[z] < f; getline < g }", "x z f g; y; "}, {"{ $x++; --$y[1]; $$z = 1 }", "x z; y; "},
		{"{ x += y -= z }", "x y z; ; "}, {"{ a ? b : c; d || e && f; g ~ h; i < j; k l; m * n; !o; -p; q++; ++r }", "a b c d e f g h i j k l m n o p q r; ; "},
		{"{ print a, b > c; printf d, e[f] >> g; if (h) i; else j; while (k) l; do m; while (n); exit o }", "a b c d f g h i j k l m n o; e; "},
		{"{ Nr; nr; NR1; _; x1; X1 }", "Nr nr NR1 _ x1 X1; ; "}, {"{ " + strings.Repeat("a", 40) + "[1] }", "; " + strings.Repeat("a", 40) + "; "},
		{"{ f = 1; g[1] }", "f; g; "},
	})
}

// P14.4: which arrays are kept: just those that a persist names, anywhere, as often as may be; a persist is a place where they stand.
func TestKept(t *testing.T) {
	hold(t, []row{
		{"persist a", "; a!; "}, {"persist a, b;persist c", "; a! b! c!; "}, {"persist b, a, b\npersist a", "; b! a!; "}, {"persist a\n{ b[1]; a[1] }", "; a! b; "}, {"{ b[1]; a[1] } persist c, a", "; b a! c!; "},
		{"{ c[1]; b[1]; a[1] } persist a,\n\nb", "; c b! a!; "}, {"{ x } persist y; { x = y[x] }", "x; y!; "}, {"persist a; { print 1 in a }", "; a!; "}, {"persist x\nfunction f(x) { x = 1 } { f(2) }", "; x!; f(x)"}, {"persist x; function f(x, y) { y = x[1] } BEGIN { f(x) }", "; x!; f(x[] y)"},
		{"persist y; function f(x) { x[1] } { f(y); f(z) }", "; y! z; f(x[])"}, {"{ z[1] } persist x; BEGIN { y[1] } persist z", "; z! x! y; "},
	})
}

// P14.2, P14.4: functions, and which of their parameters are arrays: those that stand as such in them.
func TestFunctions(t *testing.T) {
	hold(t, []row{
		{"function f() {}", "; ; f()"}, {"function f(p) {}", "; ; f(p)"}, {"function f(p, q, r) { q; p[1] = r }", "; ; f(p[] q r)"}, {"function g(b, a) {} function f(a) { a[1] }", "; ; g(b a) f(a[])"},
		{"function f(p) { delete p } function g(p) { delete p[1] } function h(p) { 1 in p } function i(p, q) { for (q in p); } function j(p) { split(1, p) }", "; ; f(p[]) g(p[]) h(p[]) i(p[] q) j(p[])"},
		{"function f(p) { p = 1; p++; split(p, x, p); for (p in x); print p; getline p; $p; sub(1, 2, p); return p }", "; x; f(p)"},
		{"{ x = 1 } function f(x) { x[1] }", "x; ; f(x[])"}, {"{ x[1] } function f(x) { x = 1 }", "; x; f(x)"}, {"function f(x) { x[1] } function g(x) { x = 1 } function h() { x[1] }", "; x; f(x[]) g(x) h()"}, {"function f(x) { x } { f(1) }", "; ; f(x)"},
		{"function f(g) { g = 1; return g } function g(f) { f[1]; g(f) }", "; ; f(g) g(f[])"}, {"function f(g) { g(g) } function g(p) { p[1] }", "; ; f(g[]) g(p[])"}, {"function f (p) { p } function g(f) { f + 1 }", "; ; f(p) g(f)"},
		{"function f(p,\np2) { y } { x }", "y x; ; f(p p2)"}, {"function f(" + params(20) + ") { p7[1] } { f(" + params(20) + ") }", "p0 p1 p2 p3 p4 p5 p6 p8 p9 p10 p11 p12 p13 p14 p15 p16 p17 p18 p19; p7; f(" + strings.Replace(strings.ReplaceAll(params(20), ",", " "), "p7", "p7[]", 1) + ")"},
	})
}

// P14.2: what is handed to a function is an array where its parameter is one, however far that is known from; and nothing else is.
func TestHanded(t *testing.T) {
	hold(t, []row{
		{"function f(p) { p[1] } { f(x); y = f() }", "y; x; f(p[])"}, {"{ f(x); y = f() } function f(p) { p[1] }", "y; x; f(p[])"}, {"function f(p, q) { p[q] } { f(a, b); f(c, d[1]) }", "b; a c d; f(p[] q)"}, {"function f(p) { p[1] } { f((x)) }", "; x; f(p[])"},
		{"function f(p) {} { f(x); f(1); f(); f(-x); f(f(x)) }", "x; ; f(p)"}, {"function f(p, q, r) { r[1] } { f(1); f(x, y); f(x, y, z) }", "x y; z; f(p q r[])"}, {"function f(p, q) { return p[q] } BEGIN { print f(a, f(b, c)) }", "c; a b; f(p[] q)"},
		{"function f(p) { f(p) } { f(x) }", "x; ; f(p)"}, {"function f(p) { f(p); p[1] } { f(x) }", "; x; f(p[])"}, {"function f(p) { p[1]; f(q) } { f(x) }", "; q x; f(p[])"}, {"function f(p) { p[1] } function g(x) { f(x) } { x }", "x; ; f(p[]) g(x[])"}, {"function f(p) { p[1] } function g(f) { f[w]; x in f; delete f[y] }", "w x y; ; f(p[]) g(f[])"},
		{"function f(p) { g(p) } function g(q) { f(q) } { g(x); f(y) }", "x y; ; f(p) g(q)"}, {"function f(p) { g(p) } function g(q) { f(q); 1 in q } { g(x); f(y) }", "; x y; f(p[]) g(q[])"},
		{"function f(p, q) { g(q, p) } function g(p, q) { f(p, q); delete q } { f(x, y) }", "; x y; f(p[] q[]) g(p[] q[])"}, {"function f(p, q) { f(q, p); q[1] } ", "; ; f(p[] q[])"}, {"function f(p, q, r) { f(q, r, p); q[1] } ", "; ; f(p[] q[] r[])"}, {"function f(p, q, r) { f(p, r, q); q[1]; p = 1 } ", "; ; f(p q[] r[])"},
		{"{ a(x) } function a(p) { b(p) } function b(p) { c(p) } function c(p) { d(p) } function d(p) { p[1] }", "; x; a(p[]) b(p[]) c(p[]) d(p[])"}, {"function d(p) { p[1] } function c(p) { d(p) } function b(p) { c(p) } function a(p) { b(p) } { a(x) }", "; x; d(p[]) c(p[]) b(p[]) a(p[])"},
		{"{ a(x, y) } function a(p, q) { b(q, p) } function b(p, q) { c(q, p) } function c(p, q) { p[1] = q }", "y; x; a(p[] q) b(p q[]) c(p[] q)"}, {"function f(p) { split(1, p) } function g(x) { f(x); f(y); h(x, z) } function h(p, q) { q + p[1] }", "z; y; f(p[]) g(x[]) h(p[] q)"},
	})
}

// params are so many names with commas between.
func params(n int) string {
	var l []string
	for i := range n {
		l = append(l, "p"+strconv.Itoa(i))
	}
	return strings.Join(l, ",")
}

// P14.3: what is wrong with a function, item by item, ahead of all that is wrong within.
func TestWrongFunctions(t *testing.T) {
	refused(t, api.ErrThere,
		"function f() {} @function f() {}", "function f() {} function g() {} { x } @function g(p) {}", "function f() {}\n@function f(f, f) {}", "function f() {} @function f("+params(21)+") {}", "function f() {} @function f() {} function g(NR) {}", "function f() {} @function f() {} persist NR",
		"@function f(p, p) {}", "@function f(p, q, r, q) {}", "@function f(NR, NR) {}", "@function f(f, p, p) {}", "@function f(NR, p, p) {}", "@function f("+params(19)+", p18) {}", "{ break; f(1); NR[1] } @function f(p, p) {}",
	)
	refused(t, api.ErrName,
		"@function NR() {}", "@function RLENGTH (p, p) {}", "@function RS("+params(21)+") {}", "@function f(NR) {}", "@function f(p, RLENGTH) {}", "@function f(f) {}", "@function f(p, q, f) {}", "{ break; f(1) } @function NF() {}", "@function NR() {} function NR() {}", "function f() {} @function g(g) {} function f() {}", "@function f("+params(19)+", FS) {}",
	)
	refused(t, api.ErrLong, "@function f("+params(21)+") {}", "@function f("+params(21)+", p0) {}", "@function f("+params(21)+", NR) {}", "@function f(f, NR, NR, "+params(40)+") {}", "{ g() } @function f("+params(21)+") {} function f() {}")
	for _, s := range strings.Fields(specials) {
		refused(t, api.ErrName, "@function "+s+"() {}", "@function f(p, "+s+", q) {}")
	}
	hold(t, []row{{"function f(" + params(20) + ") {}", "; ; f(" + strings.ReplaceAll(params(20), ",", " ") + ")"}})
}

// P14.3: what is wrong with a persist, item by item likewise.
func TestWrongKeeps(t *testing.T) {
	refused(t, api.ErrName,
		"@persist f\nfunction f() {}", "function f() {} @persist f", "function f() {} @persist a, f", "{ break } persist a; @persist b, f; function g() {} function f() {}", "{ a } @persist a, NR", "@persist NR; function f(p, p) {}", "persist a; @persist f, b; function f() {} function f() {}",
	)
	for _, s := range strings.Fields(specials) {
		refused(t, api.ErrName, "@persist "+s, "persist a; @persist b, "+s+", c; { next }")
	}
	hold(t, []row{{"function f(p) { p } persist p", "; p!; f(p)"}})
}

// P14.3: a name that stands where it can't: a function's, a special one as an array, an array as a variable.
func TestWrongNames(t *testing.T) {
	refused(t, api.ErrName,
		"function f() {} { @f }", "function f() {} { @f[1] }", "{ @f = 1 } function f() {}", "function f() {} { x + @f++ }", "function f() {} { @1 in f }", "function f() {} { @delete f }", "function f() {} { @delete f[1] }", "function f() {} { @for (f in a); }", "function f() {} { @for (k in f); }", "function f() {} { split(1, @f) }", "function f() {} { getline @f }",
		"function g() {} function f(p) { p[1] } { f(@g) }", "function f() { @f = 1 }", "function f(p) { @g } function g() {}", "function f(p) {} { f(@f) }", "function f(g) { g } function g(p) { @f; g }",
		"{ @x = 1; x[1] }", "{ x[1]; @x = 1 }", "{ x[1]; y[1]; @y; x }", "persist a\n{ @a }", "{ @a } persist a", "{ @for (x in x); }", "{ for (k in a) @a }", "{ @for (k in a); k[1] }", "{ split(@x, x) }", "{ split(1, x, @x) }", "{ getline @x } END { x[1] }", "{ x[@x] }", "{ @x in x }", "{ delete x[@x] }", "{ delete x; $@x }", "x[1], @x",
		"function f(p) { @p; p[1] }", "function f(p) { p[1]; return @p }", "function f(p) { @for (p in p); }", "function f(p) { p[1] } { f(x); @x }", "{ @x; f(x) } function f(p) { g(p) } function g(q) { q[1] }", "function f(p) {} { f(@x); x[1] }", "function f(p) { p } { f(@x); f(x[1]) }", "function f(p) { @p = 1; g(p) } function g(q) { delete q }", "function f(p) { g(@p); p[1] } function g(q) { q }", "function f(p, q) { p[1] } { f(a, @a) }",
	)
	for _, s := range strings.Fields(specials) {
		refused(t, api.ErrName, "{ @"+s+"[1] }", "{ @1 in "+s+" }", "{ @(1, 2) in "+s+" }", "{ @delete "+s+" }", "{ @delete "+s+"[1] }", "{ @for (k in "+s+"); }", "{ split(1, @"+s+") }", "function f(p) { p[1] } { f(@"+s+") }", "function f(p) { g(p); f(@"+s+") } function g(p) { delete p }")
		hold(t, []row{{"function f(p) {} { " + s + " = " + s + " + 1; f(" + s + "); getline " + s + "; for (" + s + " in a); split(" + s + ", a, " + s + ") }", "; a; f(p)"}})
	}
}

// P14.3: what is wrong with a call, ahead of what is wrong with its parts.
func TestWrongCalls(t *testing.T) {
	refused(t, api.ErrNone, "{ @f() }", "{ @f(1, 2) }", "{ x[@f()] }", "function f() { @g() }", "function f(g) { @g() }", "{ f = 1; @f() }", "{ @f(g()) }", "{ x = 1 + @f(2) }", "{ @f(NR[1]) }", "function f(p) {} { f(@g()) }", "function g() {} { g(); @G() }", "{ a[1]; @a(1) }", "@NR(1)")
	refused(t, api.ErrLong, "function f() {} { @f(1) }", "function f(p) {} { f(x); @f(x, y) }", "function f(p) { p[1] } { @f(1, 2) }", "function f(p) { p[1] } { @f(NR, NR) }", "function f(p) {} { @f(g(), 2) }", "function f("+params(20)+") { @f("+params(20)+", 1) }", "{ @f(x, y) } function f(p) { p[1] }")
	refused(t, api.ErrName,
		"function f(p) { p[1] } { f(@1) }", "function f(p) { p[1] } { f(@x[1]) }", "function f(p) { p[1] } { f(@-x) }", "function f(p) { p[1] } { f(@(1)) }", "function f(p) { p[1] } { f(@(x) y) }", "function f(p) { p[1] } { f(@f(x)) }", "function f(p) { p[1] } { f(@$1) }", "function f(p) { p[1] } { f(@/a/) }", "function f(p) { p[1] } { f(@x++) }", "function f(p) { p[1] } { f(@1 in x) }", "function f(p) { p[1] } { f(@x = y) }",
		"function f(p, q) { q[1] } { f(1, @2) }", "function f(p, q) { p[1]; q[1] } { f(@1, 2) }", "function f(p, q) { p[1]; q[1] } { f(x, @2) }", "function f(p, q) { q[1] } { f(NR[1], @2) }", "function f(p, q) { q[1] } { f(g(), @2) }", "function f(p, q) { p[1]; q[1] } { f(NR, @2) }", "function f(p) { g(p) } function g(p) { p[1] } { f(@\"a\") }",
	)
	hold(t, []row{{"function f(p, q) { p[1] } { f(); f(x); f(x, 1); f(x, y) }", "y; x; f(p[] q)"}})
}

// P14.3: what leaves a loop, a function or the rules stands within one.
func TestLeaving(t *testing.T) {
	refused(t, api.ErrState,
		"{ @break }", "{ @continue }", "{ if (1) @break }", "{ if (1); else { @continue } }", "{ while (1); @break }", "{ for (;;) {} @continue }", "{ do; while (1); @break }", "{ for (k in a); @continue }", "function f() { @break } { while (1) f() }", "BEGIN { @continue }", "{ while (1) break; @break }", "{ while (1) {} } { @break }",
		"BEGIN { @next }", "END { @next }", "function f() { @next }", "BEGIN { while (1) if (2) { @next } }", "{ next } END { for (@next;;); }", "function f(p) { while (1) @next } { f(1) }",
		"{ @return }", "BEGIN { @return 1 }", "END { @return }", "x { @return }", "x, y { @return f() }", "{ while (1) @return } function f() { return }", "function f() { return } { @return }",
	)
	hold(t, []row{
		{"{ while (1) break; do continue; while (2); for (;;) { if (1) break; else continue } for (k in a) { break } }", "k; a; "}, {"{ for (break;;); for (;;continue); for (continue;;break) break }", "; ; "}, {"{ while (1) while (2) { break; { { continue } } } }", "; ; "}, {"BEGIN { while (1) break } END { do { continue } while (1) }", "; ; "},
		{"{ next }", "; ; "}, {"x { next } x, y { while (1) next }", "x y; ; "}, {"BEGIN {} { if (x) next }", "x; ; "}, {"function f() { return } { next }", "; ; f()"}, {"{ for (next;;next); }", "; ; "},
		{"function f(p) { return; while (1) { return 2; break; continue } return p }", "; ; f(p)"}, {"BEGIN { exit } END { exit 1 } { exit } function f() { exit x }", "x; ; f()"},
	})
}

// P14.3: the first fault is told, node by node, each ahead of its parts; but those of items come ahead.
func TestFirst(t *testing.T) {
	refused(t, api.ErrState, "{ @break; f() }", "BEGIN { @next; NR[1] }", "{ @return NR[1] }")
	refused(t, api.ErrNone, "{ @f(); break }", "{ @f(NR[1]); x; x[1] }", "{ NF; x; @f(x); NR[1] }")
	refused(t, api.ErrLong, "function f() {} { @f(NR[1]); break }")
	refused(t, api.ErrName, "{ @NR[f()] }", "{ @for (k in NR) f() }", "{ @delete NR[f()] }", "{ x[1]; @NR[x] }", "{ @f() in NR }", "{ for (@NR[1]; f(); break) break }", "{ @x; f(); x[1] }", "{ @NR; f(); NR[1] }", "function f(p) { p[1] } { f(@1); g() }", "function f(p, q) { q[1]; @NR[1] } { f(1, 2) }", "{ @x } function f() { break } { x[1] }")
}

// P14.4: what is no program is told as syntax tells it, whatever its names are.
func TestProgramOfNone(t *testing.T) {
	for _, s := range []string{"{ x = }", "{ break; NR[1] } }", "{ x = 99999999999999 }", "{ print \"x }", "{ @ }", strings.Repeat(" ", 8001), strings.Repeat("a", 41), "function f(p, p) {} function", "{ f(1, }", "{ substr(x) }"} {
		_, place, wrong := syntax.Parse(s)
		n, table, at, e := resolve.Program(s)
		if wrong == api.OK || e != wrong || at != place || !isNone(table) || !reflect.DeepEqual(n, api.Node{}) {
			t.Errorf("Program(%.30q): %v, %v, %d, %v, not %d, %v", s, n, table, at, e, place, wrong)
		}
	}
}
