package show_test

import (
	"math"
	"slices"
	"strings"
	"testing"

	"auklet/api"
	"auklet/lex"
	"auklet/show"
	"auklet/syntax"
)

// row is a text, and the text of its tree.
type row struct{ s, want string }

// holdExpr holds Expr of the trees of rows' texts against rows, and reads what it answers.
func holdExpr(t *testing.T, rows []row) {
	t.Helper()
	for _, x := range rows {
		n, _, wrong := syntax.Expr(x.s)
		got, e := show.Expr(n)
		again, _, _ := syntax.Expr(got)
		if wrong != api.OK || got != x.want || e != api.OK || told(again) != told(n) {
			t.Errorf("%q: %v, %q, %v, not %q", x.s, wrong, got, e, x.want)
		}
	}
}

// hold holds Program likewise.
func hold(t *testing.T, rows []row) {
	t.Helper()
	for _, x := range rows {
		n, _, wrong := syntax.Parse(x.s)
		got, e := show.Program(n)
		again, _, _ := syntax.Parse(got)
		if wrong != api.OK || got != x.want || e != api.OK || told(again) != told(n) {
			t.Errorf("%q: %v, %q, %v, not %q", x.s, wrong, got, e, x.want)
		}
	}
}

// P13.1: Same is of all that two trees have, but for places; nil and empty lists are alike.
func TestSame(t *testing.T) {
	a := api.Node{K: 3, S: "x", N: 7, At: 5, L: []api.Node{{K: 1, At: 2}, {S: "y"}}, P: []string{"p", "q"}}
	for _, x := range []struct {
		what string
		b    api.Node
		same bool
	}{
		{"itself", a, true},
		{"At", api.Node{K: 3, S: "x", N: 7, At: 6, L: []api.Node{{K: 1, At: 9}, {S: "y", At: -1}}, P: []string{"p", "q"}}, true},
		{"empty lists", api.Node{K: 3, S: "x", N: 7, L: []api.Node{{K: 1, L: []api.Node{}, P: []string{}}, {S: "y"}}, P: []string{"p", "q"}}, true},
		{"K", api.Node{K: 4, S: "x", N: 7, L: a.L, P: a.P}, false},
		{"S", api.Node{K: 3, S: "X", N: 7, L: a.L, P: a.P}, false},
		{"N", api.Node{K: 3, S: "x", N: -7, L: a.L, P: a.P}, false},
		{"K of a part", api.Node{K: 3, S: "x", N: 7, L: []api.Node{{K: 2}, {S: "y"}}, P: a.P}, false},
		{"S of a part", api.Node{K: 3, S: "x", N: 7, L: []api.Node{{K: 1}, {}}, P: a.P}, false},
		{"N of a part", api.Node{K: 3, S: "x", N: 7, L: []api.Node{{K: 1, N: 1}, {S: "y"}}, P: a.P}, false},
		{"P of a part", api.Node{K: 3, S: "x", N: 7, L: []api.Node{{K: 1}, {S: "y", P: []string{""}}}, P: a.P}, false},
		{"L of a part", api.Node{K: 3, S: "x", N: 7, L: []api.Node{{K: 1}, {S: "y", L: []api.Node{{}}}}, P: a.P}, false},
		{"order", api.Node{K: 3, S: "x", N: 7, L: []api.Node{{S: "y"}, {K: 1}}, P: a.P}, false},
		{"one part less", api.Node{K: 3, S: "x", N: 7, L: []api.Node{{K: 1}}, P: a.P}, false},
		{"one part more", api.Node{K: 3, S: "x", N: 7, L: []api.Node{{K: 1}, {S: "y"}, {}}, P: a.P}, false},
		{"no parts", api.Node{K: 3, S: "x", N: 7, P: a.P}, false},
		{"names", api.Node{K: 3, S: "x", N: 7, L: a.L, P: []string{"p", "r"}}, false},
		{"names' order", api.Node{K: 3, S: "x", N: 7, L: a.L, P: []string{"q", "p"}}, false},
		{"a name less", api.Node{K: 3, S: "x", N: 7, L: a.L, P: []string{"p"}}, false},
		{"a name more", api.Node{K: 3, S: "x", N: 7, L: a.L, P: []string{"p", "q", ""}}, false},
		{"no names", api.Node{K: 3, S: "x", N: 7, L: a.L}, false},
		{"nothing", api.Node{}, false},
	} {
		if show.Same(a, x.b) != x.same || show.Same(x.b, a) != x.same {
			t.Errorf("%s: not %t", x.what, x.same)
		}
	}
	if !show.Same(api.Node{}, api.Node{At: -3, L: []api.Node{}, P: []string{}}) {
		t.Error("nothing, and a place")
	}
	one, _, _ := syntax.Parse("{a+b}")
	other, _, _ := syntax.Parse("{ (a) +\t b # x\n}")
	third, _, _ := syntax.Parse("{a+b;;}")
	if !show.Same(one, other) || show.Same(one, third) {
		t.Error("read trees")
	}
}

// P13.1: Strip is the same without places, in memory of its own: spare room included, of what is handed in and of what is answered.
func TestStrip(t *testing.T) {
	names := []string{"p", "q", "spare"}
	parts := []api.Node{{K: 1, S: "a", At: 4, P: names[:2]}, {N: 7, At: -2, L: []api.Node{{At: 9}}}, {K: 99, At: 8}}
	n := api.Node{K: api.SEach, S: "s", N: math.MinInt64, At: 3, L: parts[:2], P: names[:1]}
	want := told(n)
	got := show.Strip(n)
	if told(got) != want || got.At+got.L[0].At+got.L[1].At+got.L[1].L[0].At != 0 || got.L[1].At != 0 {
		t.Error(told(got), got)
	}
	if n.At != 3 || n.L[0].At != 4 || n.L[1].At != -2 || n.L[1].L[0].At != 9 || parts[2].At != 8 {
		t.Error("the argument is changed", n)
	}
	for _, part := range nodes(&got) {
		for i := range part.L[:cap(part.L)] {
			part.L[:cap(part.L)][i].S = "changed"
		}
		for i := range part.P[:cap(part.P)] {
			part.P[:cap(part.P)][i] = "changed"
		}
	}
	if told(n) != want || parts[2].S != "" || !slices.Equal(names, []string{"p", "q", "spare"}) {
		t.Error("memory is shared", told(n))
	}
	again := show.Strip(n)
	for _, part := range nodes(&again) {
		clear(part.L[len(part.L):cap(part.L)])
		clear(part.P[len(part.P):cap(part.P)])
	}
	if told(again) != want {
		t.Error("lists have room together", told(again))
	}
	names[0], parts[0].S, n.L[1].L[0].K = "z", "z", 5
	if told(again) != want {
		t.Error(told(again))
	}
	if show.Strip(api.Node{At: 7}).At != 0 || !show.Same(show.Strip(api.Node{}), api.Node{}) {
		t.Error("of nothing")
	}
}

// P13.2: expressions' texts, kind by kind.
func TestExpressions(t *testing.T) {
	holdExpr(t, []row{
		{"x=y z+1", "x = (y (z + 1))"},
		{"1", "1"}, {"1.50", "1.5"}, {".5", "0.5"}, {"007.", "7"}, {"0.0000019", "0.000001"}, {"0", "0"}, {"9223372036854.775807", "9223372036854.775807"},
		{`"a"`, `"a"`}, {`""`, `""`}, {`"\n\t\\\"\/\q / #"`, `"\n\t\\\"/\\q / #"`}, {"\"\x00\xff\r\"", "\"\x00\xff\r\""},
		{"/a/", "/a/"}, {"//", "//"}, {`/a\/b\/\/c/`, `/a\/b\/\/c/`}, {"/[/]/", `/[\/]/`}, {`/[^]/\]]\\\/[[/]"#/`, `/[^]\/\]]\\\/[[\/]"#/`}, {"(/a/)", "/a/"},
		{"x", "x"}, {"(x)", "x"}, {"((x))", "x"}, {"_a1", "_a1"},
		{"x[1]", "x[1]"}, {"x [ a,b+1 ,\n/c/ ]", "x[a, b + 1, /c/]"}, {"x[y[z=1]]", "x[y[z = 1]]"},
		{"$1", "$1"}, {"$ $x", "$$x"}, {"$(a b)", "$(a b)"}, {"$(-1)", "$(-1)"}, {"$++x", "$(++x)"}, {"$x++", "$x++"}, {"$(x++)", "$(x++)"}, {"$x[1]", "$x[1]"}, {"$f(1)", "$f(1)"}, {"$(/a/)", "$(/a/)"}, {"$\"a\"", "$\"a\""}, {"$length", "$length()"}, {"$getline", "$(getline)"}, {"($1) ($2)", "$1 $2"},
		{"x=1", "x = 1"}, {"x+=y", "x += y"}, {"x-=1", "x -= 1"}, {"x*=1", "x *= 1"}, {"x/=/a/", "x /= (/a/)"}, {"x%=1", "x %= 1"}, {"x[1]=$2=y=1", "x[1] = ($2 = (y = 1))"}, {"$x=\n$y", "$x = $y"}, {"x=a?b:c", "x = (a ? b : c)"},
		{"a?b:c", "a ? b : c"}, {"a ? b : c ? d : e", "a ? b : (c ? d : e)"}, {"(a?b:c)?d=1:/e/", "(a ? b : c) ? (d = 1) : (/e/)"},
		{"a||b", "a || b"}, {"a||b||c", "(a || b) || c"}, {"a||b&&c", "a || (b && c)"}, {"/a/||/b/", "(/a/) || (/b/)"},
		{"a&&\nb", "a && b"}, {"a && (b && c)", "a && (b && c)"},
		{"a in b", "a in b"}, {"(a) in b", "a in b"}, {"(a,b) in c", "(a, b) in c"}, {"(a=1,\nb c,/d/) in e", "(a = 1, b c, /d/) in e"}, {"a in b in c", "(a in b) in c"}, {"(a,b) in c in d", "((a, b) in c) in d"}, {"$1 in a", "$1 in a"}, {"a b in c", "(a b) in c"}, {"/a/ in b", "(/a/) in b"},
		{"a~/b/", "a ~ (/b/)"}, {"a !~ b", "a !~ b"}, {"a~b~c", "(a ~ b) ~ c"}, {"/a/~$1", "(/a/) ~ $1"},
		{"a<b", "a < b"}, {"a<=b", "a <= b"}, {"a==b", "a == b"}, {"a!=b", "a != b"}, {"a>b", "a > b"}, {"a>=b", "a >= b"}, {"(a<b)<(c>d)", "(a < b) < (c > d)"}, {"a b == 1+2", "(a b) == (1 + 2)"},
		{"a b", "a b"}, {"a b c", "(a b) c"}, {"a (b c)", "a (b c)"}, {"1 2", "1 2"}, {"1 .5", "1 0.5"}, {`"a""b"`, `"a" "b"`}, {"a (b)", "a b"}, {"f(a) (b)", "f(a) b"}, {"a (/b/)", "a (/b/)"}, {"a (-b)", "a (-b)"}, {"a ++b", "(a++) b"}, {"1 ++b", "1 (++b)"}, {"length a", "length() a"}, {"length (a)", "length(a)"}, {"a getline2", "a getline2"},
		{"a+b", "a + b"}, {"a-b-c", "(a - b) - c"}, {"a-(b-c)", "a - (b - c)"}, {"a*b/c%d", "((a * b) / c) % d"}, {"a+b*c", "a + (b * c)"}, {"(a+b)*c", "(a + b) * c"}, {"a - -b", "a - (-b)"}, {"1/2/3", "(1 / 2) / 3"}, {"a/(/b/)", "a / (/b/)"}, {"a+(b=c)", "a + (b = c)"},
		{"!a", "!a"}, {"-a", "-a"}, {"+a", "+a"}, {"!!a", "!(!a)"}, {"- -a", "-(-a)"}, {"-(a+b)", "-(a + b)"}, {"-a+b", "(-a) + b"}, {"!/a/", "!(/a/)"}, {"-++a", "-(++a)"}, {"-1", "-1"}, {"!a[1]", "!a[1]"}, {"!$1", "!$1"},
		{"++a", "++a"}, {"--a[1,b]", "--a[1, b]"}, {"++$a", "++$a"}, {"a++", "a++"}, {"a[1]--", "a[1]--"}, {"$a--", "$a--"}, {"$(a+1)++", "$(a + 1)++"}, {"-a--", "-(a--)"}, {"a++ + ++a", "(a++) + (++a)"},
		{"f()", "f()"}, {"f( a,b=1 )", "f(a, b = 1)"}, {"f(/a/,\n(b,c) in d)", "f(/a/, (b, c) in d)"}, {"f(g(h()))", "f(g(h()))"}, {"f(a>b)", "f(a > b)"}, {"f(getline,getline x)", "f(getline, getline x)"},
		{"length", "length()"}, {"length()", "length()"}, {"length($0)", "length($0)"}, {"sync()", "sync()"}, {"substr(a,b+1,c)", "substr(a, b + 1, c)"}, {"split(a,(b),/c/)", "split(a, b, /c/)"}, {"gsub(/a/,\"b\",($1))", "gsub(/a/, \"b\", $1)"}, {"sprintf(\"%d\",a b)", "sprintf(\"%d\", a b)"},
		{"getline", "getline"}, {"getline a", "getline a"}, {"getline a[1]", "getline a[1]"}, {"getline $a", "getline $a"}, {"getline<a", "getline < a"}, {"getline a<\"b\"", "getline a < \"b\""}, {"getline $a<$b", "getline $a < $b"}, {"getline a<(b c)", "getline a < (b c)"}, {"getline<getline<a", "getline < (getline < a)"}, {"getline</a/", "getline < (/a/)"}, {"getline a b", "(getline a) b"}, {"getline<a b", "(getline < a) b"}, {"1+getline", "1 + (getline)"},
	})
}

// P13.3: statements' texts, kind by kind: in a block of their own.
func TestStatements(t *testing.T) {
	var rows []row
	for _, x := range []row{
		{"print", "print;"}, {"print a", "print a;"}, {"print(a)", "print a;"}, {"print a b,c+d,/e/", "print (a b), (c + d), (/e/);"}, {"print(a,b)", "print a, b;"}, {"print (a)(b),c", "print (a b), c;"}, {"print(a,b)>c d", "print a, b > (c d);"}, {"print>a", "print > a;"}, {"print >> /a/", "print >> (/a/);"}, {"print a>b", "print a > b;"}, {"print (a>b)>>\"c\"", "print (a > b) >> \"c\";"}, {"print a,(b>c)>$d", "print a, (b > c) > $d;"}, {"print (a,b) in c", "print ((a, b) in c);"}, {"print a=b", "print (a = b);"}, {"print getline", "print (getline);"}, {"print -1", "print (-1);"}, {"print f(1)", "print f(1);"},
		{"printf a", "printf a;"}, {"printf(a,b c)", "printf a, (b c);"}, {"printf a,b>>c", "printf a, b >> c;"}, {"printf \"%d\\n\",a>\"b\"", "printf \"%d\\n\", a > \"b\";"},
		{"delete a", "delete a;"}, {"delete a[1]", "delete a[1];"}, {"delete a[b c,/d/,e=1]", "delete a[b c, /d/, e = 1];"},
		{"next", "next;"}, {"break", "break;"}, {"continue", "continue;"}, {"exit", "exit;"}, {"exit 1+a", "exit 1 + a;"}, {"exit/a/", "exit /a/;"}, {"return", "return;"}, {"return a=1", "return a = 1;"}, {"return(a,b)in c", "return (a, b) in c;"},
		{"a", "a;"}, {"a=1", "a = 1;"}, {"/a/", "/a/;"}, {"(a,b) in c", "(a, b) in c;"}, {"-a", "-a;"}, {"++a", "++a;"}, {"getline<a", "getline < a;"}, {"f()", "f();"}, {"\"a\"", "\"a\";"},
		{"if(a)b", "if (a) b;"}, {"if(a=b)c;else d", "if (a = b) c; else d;"}, {"if(a){b}else{c;d}", "if (a) { b; } else { c; d; }"}, {"if(/a/);", "if (/a/) { }"}, {"if(a)if(b)c;else d", "if (a) if (b) c; else d;"}, {"if(a){if(b)c}else d", "if (a) { if (b) c; } else d;"}, {"if(a)if(b)c\nelse\nd\nelse if(e)f;else/g/", "if (a) if (b) c; else d; else if (e) f; else /g/;"}, {"if (a) (/b/) c", "if (a) (/b/) c;"}, {"if(a)-b", "if (a) -b;"},
		{"while(a)b", "while (a) b;"}, {"while((a,b)in c)\n;", "while ((a, b) in c) { }"}, {"while(a)while(b){}", "while (a) while (b) { }"},
		{"do a;while(b)", "do a; while (b);"}, {"do{a\nb}while(c d)", "do { a; b; } while (c d);"}, {"do while(a)b;while(c)", "do while (a) b; while (c);"}, {"do\n/a/\nwhile(b)", "do /a/; while (b);"}, {"do do;while(a);while(b)", "do do { } while (a); while (b);"}, {"do if(a)b;while(c)", "do if (a) b; while (c);"},
		{"for(;;);", "for (; ; ) { }"}, {"for(a=1;;)b", "for (a = 1; ; ) b;"}, {"for(;a<1;)b", "for (; a < 1; ) b;"}, {"for(;;a++)b", "for (; ; a++) b;"}, {"for(a;b;)c", "for (a; b; ) c;"}, {"for(a;;c)d", "for (a; ; c) d;"}, {"for(;b;c)d", "for (; b; c) d;"}, {"for(print a,b;\n/c/;\ndelete d[1])\ne", "for (print a, b; /c/; delete d[1]) e;"}, {"for(next;a;exit b)break", "for (next; a; exit b) break;"}, {"for(a in b;;)c", "for (a in b; ; ) c;"}, {"for(print>a;;printf b>>c){}", "for (print > a; ; printf b >> c) { }"}, {"for(/a/;;/b/)for(;;){}", "for (/a/; ; /b/) for (; ; ) { }"}, {"for(return;;continue)do;while(a)", "for (return; ; continue) do { } while (a);"},
		{"for(a in b)c", "for (a in b) c;"}, {"for(a in b)\nfor(c in d){e;f}", "for (a in b) for (c in d) { e; f; }"},
		{"{}", "{ }"}, {";", "{ }"}, {"{;}", "{ { } }"}, {"{a;b\nc}", "{ a; b; c; }"}, {"{{}{}}", "{ { } { } }"}, {"a;;b\n\n{if(c);}d", "a; { } b; { if (c) { } } d;"}, {"{/a/}/b/", "{ /a/; } /b/;"},
	} {
		rows = append(rows, row{"{" + x.s + "}", "{ " + x.want + " }\n"}, row{"BEGIN{a;" + x.s + "\nb}", "BEGIN { a; " + x.want + " b; }\n"})
	}
	hold(t, rows)
}

// P13.4: programs' texts, item by item.
func TestPrograms(t *testing.T) {
	hold(t, []row{
		{"", ""}, {"\n;;\n", ""}, {"BEGIN{}", "BEGIN { }\n"}, {"END{a}", "END { a; }\n"}, {"BEGIN{a;b}END{}BEGIN{c}", "BEGIN { a; b; }\nEND { }\nBEGIN { c; }\n"},
		{"function f(){}", "function f() { }\n"}, {"function f (a,\nb)\n{return a}", "function f(a, b) { return a; }\n"}, {"function f(a){}function g(b){}", "function f(a) { }\nfunction g(b) { }\n"},
		{"persist a", "persist a\n"}, {"persist a,\nb,c;d", "persist a, b, c\nd\n"},
		{"a", "a\n"}, {"a;b", "a\nb\n"}, {"/a/", "/a/\n"}, {"a=b c", "a = (b c)\n"}, {"(a,b)in c{}", "(a, b) in c { }\n"}, {"-1", "-1\n"}, {"a>b", "a > b\n"}, {"getline<a{b}", "getline < a { b; }\n"}, {"getline\n{}", "getline\n{ }\n"},
		{"{}", "{ }\n"}, {"a{b}", "a { b; }\n"}, {"/a/{b}{c}\nd\n{e}", "/a/ { b; }\n{ c; }\nd\n{ e; }\n"}, {"$2>0{s+=$2}END{print s}", "$2 > 0 { s += $2; }\nEND { print s; }\n"},
		{"a,b", "a, b\n"}, {"a=1,\n/b/{c}", "a = 1, /b/ { c; }\n"}, {"a,b;c,d{}e", "a, b\nc, d { }\ne\n"}, {"a,b\n{c}", "a, b\n{ c; }\n"},
	})
	if s, e := show.Program(api.Node{K: api.Program, At: 7, L: []api.Node{{K: api.IKeep, At: -1, P: []string{"a"}}}}); s != "persist a\n" || e != api.OK {
		t.Errorf("%q, %v: places say nothing", s, e)
	}
}

// v is a variable.
func v(s string) api.Node { return api.Node{K: api.EVar, S: s} }

// of is a node of the kind k, with a sign or name, and parts.
func of(k int, s string, l ...api.Node) api.Node { return api.Node{K: k, S: s, L: l} }

// P13.4: what is no expression's tree has no text: kinds that are none, parts, signs, names and numbers that can't be.
func TestNoExpression(t *testing.T) {
	a, b := v("a"), v("b")
	for _, n := range []api.Node{
		{K: -1}, {K: api.Nodes}, {K: math.MaxInt}, {K: math.MinInt}, {K: api.Program}, of(api.SExpr, "", a), of(api.SPrint, "", a), {K: api.SBlock}, {K: api.SNext}, of(api.IRule, "10", a), of(api.IBegin, "", of(api.SBlock, "")), {K: api.IKeep, P: []string{"a"}},
		{N: -1}, {N: -api.One}, {N: math.MinInt64}, {S: "1"}, of(api.ENum, "", a), {P: []string{"a"}}, {K: api.EStr, N: 1}, {K: api.EVar, S: "a", N: 1}, {K: api.EVar, S: "a", P: []string{""}}, of(api.EVar, "a", a), of(api.EStr, "a", a), of(api.ERegex, "a", a),
		v(""), v("in"), v("getline"), v("length"), v("sync"), v("1"), v("a b"), v("a+b"), v("(a)"), v("a "), v(" a"), v("a\n"), v("a#"), v("a[1]"), v("$1"), v("f()"), v("/a/"), v("\"a\""), v(strings.Repeat("a", 41)), v("é"), v("a;"),
		of(api.ERegex, "\n"), of(api.ERegex, "a\nb"), of(api.ERegex, "["), of(api.ERegex, "[]"), of(api.ERegex, "[^]"), of(api.ERegex, "\\"), of(api.ERegex, `a\/b`), of(api.ERegex, `[\/]`), of(api.ERegex, `[a\]`),
		of(api.EIndex, "a"), of(api.EIndex, "f(", a), of(api.EIndex, "1", a), of(api.EIndex, "length", a), of(api.EIndex, "", a),
		of(api.EField, ""), of(api.EField, "", a, b), of(api.EField, "$", a), of(api.EAssign, "=", a), of(api.EAssign, "="), of(api.EAssign, "=", a, b, a), of(api.EAssign, "", a, b), of(api.EAssign, "+=", a, b), of(api.EAssign, "==", a, b), of(api.EAssign, "<", a, b), of(api.EAssign, "=", api.Node{}, b), of(api.EAssign, "=", of(api.EBin, "+", a, b), b), of(api.EAssign, "=", of(api.EAssign, "=", a, b), b), of(api.EAssign, "=", of(api.EUn, "-", a), b),
		of(api.ECond, "", a, b), of(api.ECond, "", a), of(api.ECond, ""), of(api.ECond, "", a, b, a, b), of(api.ECond, "?", a, b, a), of(api.EOr, "", a), of(api.EOr, ""), of(api.EOr, "", a, b, a), of(api.EOr, "||", a, b), of(api.EAnd, "", a), of(api.EAnd, "&&", a, b), of(api.EAnd, "", a, b, a),
		of(api.EIn, "a"), of(api.EIn, "", a), of(api.EIn, "in", a), of(api.EIn, "1", a), of(api.EIn, "f(", a),
		of(api.EMatch, "", a, b), of(api.EMatch, "~", a), of(api.EMatch, "!", a, b), of(api.EMatch, "==", a, b), of(api.ECmp, "~", a, b), of(api.ECmp, "=", a, b), of(api.ECmp, "<"), of(api.ECmp, "<", a, b, a), of(api.ECmp, " < ", a, b), of(api.ECat, "", a), of(api.ECat, ""), of(api.ECat, "", a, b, a), of(api.ECat, " ", a, b), of(api.EBin, "", a, b), of(api.EBin, "<", a, b), of(api.EBin, "+", a), of(api.EBin, "+"), of(api.EBin, "+", a, b, a), of(api.EBin, "^", a, b), of(api.EBin, "++", a, b),
		of(api.EUn, "", a), of(api.EUn, "$", a), of(api.EUn, "++", a), of(api.EUn, "-"), of(api.EUn, "-", a, b), of(api.EUn, "!-", a), of(api.EUn, "-(-", a), of(api.EStep, "", a), of(api.EStep, "x", a), of(api.EStep, "++", a), of(api.EStep, "+x", a), of(api.EStep, "x+", a), of(api.EStep, "++x++", a), of(api.EStep, "xx", a), of(api.EStep, "++x"), of(api.EStep, "x++"), of(api.EStep, "x++", a, b), of(api.EStep, "x++", api.Node{}), of(api.EStep, "++x", of(api.ECall, "f")), of(api.EStep, "--x", of(api.EStep, "--x", a)), of(api.EStep, "x--", of(api.EGet, "")),
		of(api.ECall, ""), of(api.ECall, "length"), of(api.ECall, "int", a), of(api.ECall, "if", a), of(api.ECall, "1"), of(api.ECall, "f "), of(api.ECall, "f("), of(api.EOwn, "f"), of(api.EOwn, ""), of(api.EOwn, "length", a, b), of(api.EOwn, "int"), of(api.EOwn, "sync", a), of(api.EOwn, "substr", a), of(api.EOwn, "split", a, api.Node{}), of(api.EOwn, "sub", a, b, api.Node{}), of(api.EOwn, "sprintf"), of(api.EOwn, "print", a), of(api.EOwn, "getline", a),
		of(api.EGet, "", a), of(api.EGet, "v"), of(api.EGet, "v", a, b), of(api.EGet, "v", api.Node{}), of(api.EGet, "f"), of(api.EGet, "f", a, b), of(api.EGet, "vf", a), of(api.EGet, "fv", a, b), of(api.EGet, "vf"), of(api.EGet, "x", a), of(api.EGet, "vv", a, b), of(api.EGet, "ff", a, b), of(api.EGet, "v", of(api.ECall, "f")), of(api.EGet, "vf", a, b, a),
	} {
		for _, x := range []api.Node{n, of(api.ECall, "f", a, n), of(api.ECat, "", a, n), of(api.EField, "", n)} {
			if s, e := show.Expr(x); s != "" || e != api.ErrArg {
				t.Errorf("Expr(%s): %q, %v", told(x), s, e)
			}
			if s, e := show.Program(of(api.Program, "", of(api.IRule, "10", x))); s != "" || e != api.ErrArg {
				t.Errorf("Program of %s: %q, %v", told(x), s, e)
			}
		}
	}
}

// P13.4: what is no program's tree has no text, either.
func TestNoProgram(t *testing.T) {
	a, b, block := v("a"), v("b"), of(api.SBlock, "")
	simple := of(api.SExpr, "", a)
	open := of(api.SIf, "", a, simple)
	for _, n := range []api.Node{
		{K: -1}, {K: api.Nodes}, {}, a, {K: api.Program}, {K: api.IBegin, L: []api.Node{block}}, {K: api.IKeep, P: []string{"a"}},
		{K: api.SExpr}, of(api.SExpr, "", a, b), of(api.SExpr, "x", a), of(api.SExpr, "", simple), of(api.SExpr, "", block), of(api.SPrint, ">"), of(api.SPrint, "<", a, b), of(api.SPrint, ">>>", a, b), of(api.SPrint, ">="), of(api.SPrint, "", simple), of(api.SFormat, ""), of(api.SFormat, ">", a), of(api.SFormat, ">"), {K: api.SPrint, P: []string{"a"}}, {K: api.SPrint, N: 1},
		{K: api.SIf}, of(api.SIf, "", a), of(api.SIf, "", a, b), of(api.SIf, "", block, block), of(api.SIf, "", a, open, block), of(api.SIf, "", a, of(api.SWhile, "", a, open), block), of(api.SIf, "", a, block, block, block), of(api.SIf, "x", a, block), of(api.SIf, "", simple, block), of(api.SWhile, "", a), {K: api.SWhile}, of(api.SWhile, "", a, block, block), of(api.SWhile, "", block, a), of(api.SDo, "", block), {K: api.SDo}, of(api.SDo, "", a, block), of(api.SDo, "", block, a, b), of(api.SDo, "", block, block),
		of(api.SFor, "", block), of(api.SFor, "00", block), of(api.SFor, "0000", block), of(api.SFor, "000"), of(api.SFor, "000", block, block), of(api.SFor, "111", simple, a, simple), of(api.SFor, "100", block), of(api.SFor, "020", a, block), of(api.SFor, "x00", simple, block), of(api.SFor, "100", a, block), of(api.SFor, "010", simple, block), of(api.SFor, "100", block, block), of(api.SFor, "001", open, block), of(api.SFor, "100", of(api.SDo, "", block, a), block), of(api.SFor, "110", simple, a, simple, block),
		{K: api.SEach, L: []api.Node{block}}, {K: api.SEach, L: []api.Node{block}, P: []string{"a"}}, {K: api.SEach, L: []api.Node{block}, P: []string{"a", "b", "c"}}, {K: api.SEach, P: []string{"a", "b"}}, {K: api.SEach, L: []api.Node{block, block}, P: []string{"a", "b"}}, {K: api.SEach, L: []api.Node{block}, P: []string{"a in b", "c"}}, {K: api.SEach, L: []api.Node{block}, P: []string{"a", ""}}, {K: api.SEach, L: []api.Node{block}, P: []string{"a", "in"}}, {K: api.SEach, L: []api.Node{block}, P: []string{"length", "a"}}, {K: api.SEach, L: []api.Node{a}, P: []string{"a", "b"}},
		of(api.SBlock, "", a), of(api.SBlock, "x"), {K: api.SBlock, P: []string{"a"}}, {K: api.SBlock, N: 1}, of(api.SNext, "", a), of(api.SNext, "x"), of(api.SBreak, "", block), of(api.SGo, "", a), of(api.SExit, "", a, b), of(api.SExit, "", block), of(api.SExit, "x"), of(api.SReturn, "", a, b), of(api.SReturn, "", simple), of(api.SDelete, ""), of(api.SDelete, "in"), of(api.SDelete, "a", block), of(api.SDelete, "length"), of(api.SDelete, "a[1]"), of(api.SDelete, "", a),
		{K: api.IEnd}, of(api.IRule, "01", block),
	} {
		if n.K != api.Program {
			refused(t, n)
		}
		within := of(api.Program, "", of(api.IBegin, "", of(api.SBlock, "", n, simple)))
		refused(t, within, of(api.Program, "", of(api.IRule, "01", of(api.SBlock, "", of(api.SWhile, "", a, n)))))
	}
	for _, n := range []api.Node{
		{K: -1}, {K: api.Nodes}, a, simple, block, {K: api.Program}, {K: api.IBegin}, of(api.IBegin, "", simple), of(api.IBegin, "", block, block), of(api.IBegin, "x", block), of(api.IBegin, "", a), {K: api.IEnd}, of(api.IEnd, "", a), of(api.IEnd, "", of(api.SIf, "", a, block)), {K: api.IEnd, L: []api.Node{block}, P: []string{"a"}},
		of(api.IRule, "", a), of(api.IRule, "1", a), of(api.IRule, "00"), of(api.IRule, "00", a), of(api.IRule, "10"), of(api.IRule, "10", a, b), of(api.IRule, "10", a, block), of(api.IRule, "10", block), of(api.IRule, "11", a), of(api.IRule, "11", block), of(api.IRule, "11"), of(api.IRule, "11", a, b, block), of(api.IRule, "11", block, a), of(api.IRule, "01"), of(api.IRule, "01", a), of(api.IRule, "01", simple), of(api.IRule, "01", a, block), of(api.IRule, "2", a), of(api.IRule, "111", a, block), of(api.IRule, "10", simple),
		of(api.IRange, "", a, b), of(api.IRange, "0", a), of(api.IRange, "0"), of(api.IRange, "1"), of(api.IRange, "0", a, b, a), of(api.IRange, "0", a, b, block), of(api.IRange, "1", a, b), of(api.IRange, "1", a, block), of(api.IRange, "1", a, b, a), of(api.IRange, "1", a, b, block, block), of(api.IRange, "2", a, b), of(api.IRange, "11", a, b, block), of(api.IRange, "01", block),
		of(api.IFunc, "", block), of(api.IFunc, "f"), of(api.IFunc, "f", simple), of(api.IFunc, "f", block, block), of(api.IFunc, "if", block), of(api.IFunc, "length", block), of(api.IFunc, "f(a)", block), {K: api.IFunc, S: "f", L: []api.Node{block}, P: []string{""}}, {K: api.IFunc, S: "f", L: []api.Node{block}, P: []string{"a", "in"}}, {K: api.IFunc, S: "f", L: []api.Node{block}, P: []string{"a, b"}}, {K: api.IFunc, S: "f", L: []api.Node{block}, P: []string{"g("}}, {K: api.IFunc, S: "f", L: []api.Node{a}},
		{K: api.IKeep}, {K: api.IKeep, P: []string{""}}, {K: api.IKeep, P: []string{"a", ""}}, {K: api.IKeep, P: []string{"a,b"}}, {K: api.IKeep, P: []string{"sync"}}, {K: api.IKeep, P: []string{"a"}, S: "a"}, {K: api.IKeep, P: []string{"a"}, L: []api.Node{a}}, {K: api.IKeep, P: []string{"a\nb"}}, {K: api.IKeep, P: []string{"a", "f()"}},
	} {
		refused(t, of(api.Program, "", n), of(api.Program, "", of(api.IRule, "01", block), n, of(api.IRule, "10", a)))
	}
	refused(t, of(api.Program, "x"), api.Node{K: api.Program, N: 1}, api.Node{K: api.Program, P: []string{"a"}}, api.Node{}, of(api.Program, "x", of(api.IRule, "10", a)))
}

// refused holds that none of l has a text as a program.
func refused(t *testing.T, l ...api.Node) {
	t.Helper()
	for _, n := range l {
		if s, e := show.Program(n); s != "" || e != api.ErrArg {
			t.Errorf("Program(%s): %q, %v", told(n), s, e)
		}
	}
}

// lines is a program of rules that are expressions.
func lines(l ...api.Node) api.Node {
	n := api.Node{K: api.Program}
	for _, x := range l {
		n.L = append(n.L, of(api.IRule, "10", x))
	}
	return n
}

// signs is a with a sign ahead so many times.
func signs(k int, sign string, many int) api.Node {
	n := v("a")
	for range many {
		n = of(k, sign, n)
	}
	return n
}

// either holds that n has the text want, or has none.
func either(t *testing.T, write func(n api.Node) (string, api.Errno), n api.Node, has bool, want string) {
	t.Helper()
	e := api.OK
	if !has {
		want, e = "", api.ErrArg
	}
	if s, got := write(n); s != want || got != e {
		t.Errorf("%.100s: %.100q, %v, not %.100q, %v", told(n), s, got, want, e)
	}
}

// P13.4: 3000 nodes, 600 levels, and no more; what can be read, but has more, has no text.
func TestMostNodes(t *testing.T) {
	ab, a := of(api.ECat, "", v("a"), v("b")), v("a")
	for _, x := range []struct {
		last  []api.Node
		s     string
		nodes int
	}{{[]api.Node{of(api.EUn, "-", a)}, "-a\n", 3000}, {[]api.Node{a}, "a\n", 2999}, {[]api.Node{ab}, "a b\n", 3001}, {[]api.Node{a, a}, "a\na\n", 3001}} {
		n := lines(append(slices.Repeat([]api.Node{ab}, 749), x.last...)...)
		s := strings.Repeat("a b\n", 749) + x.s
		if read, _, e := syntax.Parse(s); syntax.Count(n) != x.nodes || told(read) != told(n) || e != api.OK {
			t.Error(syntax.Count(n), e)
		}
		either(t, show.Program, n, x.nodes <= 3000, s)
	}
	for _, many := range []int{1, 200, 598, 599, 600, 601, 2000} {
		s := strings.Repeat("$", many) + "a"
		n := signs(api.EField, "", many)
		if read, _, e := syntax.Expr(s); told(read) != told(n) || e != api.OK {
			t.Error(many, e)
		}
		either(t, show.Expr, n, many <= 599, s)
		either(t, show.Program, lines(n), many <= 597, s+"\n")
	}
	either(t, show.Program, lines(slices.Repeat([]api.Node{a}, 1499)...), true, strings.Repeat("a\n", 1499))
	either(t, show.Program, lines(slices.Repeat([]api.Node{a}, 1500)...), false, "")
}

// P13.4, P13.5: a text that is too long, in bytes or tokens, or too deep with its brackets, is none.
func TestMostText(t *testing.T) {
	for _, many := range []int{7996, 7997, 7998, 7999, 8001, 1 << 20} {
		s := lex.Quote(strings.Repeat("x", many))
		either(t, show.Program, lines(of(api.EStr, s[1:many+1])), many <= 7997, s+"\n")
		either(t, show.Expr, of(api.EStr, s[1:many+1]), many <= 7998, s)
		either(t, show.Expr, of(api.ERegex, s[1:many+1]), many <= 7998, "/"+s[1:many+1]+"/")
		either(t, show.Expr, of(api.EUn, "!", of(api.ERegex, s[1:many+1])), false, "")
		either(t, show.Expr, v(s[1:many+1]), false, "")
	}
	either(t, show.Expr, of(api.EStr, strings.Repeat("\n", 3999)), true, `"`+strings.Repeat(`\n`, 3999)+`"`)
	either(t, show.Expr, of(api.EStr, strings.Repeat("\n", 4000)), false, "")
	either(t, show.Expr, of(api.ERegex, strings.Repeat("/", 3999)), true, `/`+strings.Repeat(`\/`, 3999)+`/`)
	either(t, show.Expr, of(api.ERegex, strings.Repeat("/", 4000)), false, "")
	for _, x := range []struct {
		rules, persists int
		has             bool
	}{{1498, 1, true}, {1497, 2, false}, {1499, 0, true}} { // 3000 tokens, 3001, 2999
		n := lines(slices.Repeat([]api.Node{v("a")}, x.rules)...)
		n.L = append(n.L, slices.Repeat([]api.Node{{K: api.IKeep, P: []string{"a"}}}, x.persists)...)
		either(t, show.Program, n, x.has, strings.Repeat("a\n", x.rules)+strings.Repeat("persist a\n", x.persists))
	}
	for _, many := range []int{1, 100, 200, 201, 202, 203, 300} {
		n, want := v("a"), "a"
		for i := range many {
			n = of(api.EBin, "-", n, v("b"))
			if i > 0 {
				want = "(" + want + ")"
			}
			want += " - b"
		}
		if read, _, e := syntax.Expr("a" + strings.Repeat("-b", many)); told(read) != told(n) || e != api.OK {
			t.Error(many, e)
		}
		either(t, show.Expr, n, many <= 201, want)
		either(t, show.Program, lines(n), many <= 201, want+"\n")
	}
	for _, many := range []int{99, 100, 101, 150, 200} {
		want := strings.Repeat("-(", many-1) + "-a" + strings.Repeat(")", many-1)
		_, _, e := syntax.Expr(strings.Repeat("- ", many) + "a")
		either(t, show.Expr, signs(api.EUn, "-", many), many <= 100, want)
		if _, _, wrong := syntax.Expr(want); e != api.OK || (wrong == api.ErrLong) != (many > 100) {
			t.Error(many, e, wrong)
		}
	}
}

// P13.3, P13.4: behind the ) of if, while and for a / divides: a pattern alone as a statement there, which is read behind a line feed or in brackets, has no text; elsewhere it has.
func TestPatternBehind(t *testing.T) {
	for _, x := range []string{"if(a)\n/b/", "if(a)(/b/)", "if(a)\n/b/;else c", "while(a)\n/b/", "for(;;)\n/b/", "for(a;b;c)(/b/)", "for(a in b)\n/c/", "do if(a)\n/b/\nwhile(c)"} {
		n, _, e := syntax.Parse("{" + x + "}")
		if e != api.OK {
			t.Errorf("%q: %v", x, e)
		}
		refused(t, n)
	}
	hold(t, []row{{"{if(a)\n{/b/}else\n/c/}", "{ if (a) { /b/; } else /c/; }\n"}, {"{while(a)\n/b/ c}", "{ while (a) (/b/) c; }\n"}, {"{for(;;)\n!/b/}", "{ for (; ; ) !(/b/); }\n"}, {"{do\n/a/\nwhile(/b/)}", "{ do /a/; while (/b/); }\n"}})
}

// Every call ends, at trees of any size, and changes nothing of what it is handed.
func TestAnyTree(t *testing.T) {
	deep, other := v("a"), v("a")
	for range 1<<16 - 1 {
		deep = api.Node{K: api.EUn, S: "-", At: 5, L: []api.Node{deep}}
		other = api.Node{K: api.EUn, S: "-", L: []api.Node{other}}
	}
	wide := api.Node{K: api.Program, L: make([]api.Node, 1<<20)}
	for _, n := range []api.Node{deep, wide, {K: api.SBlock, L: []api.Node{deep}}, lines(deep), {K: api.SIf, L: []api.Node{deep, wide}}, {K: api.EIndex, S: "a", P: make([]string, 1<<20), L: []api.Node{wide}}} {
		refused(t, n)
		either(t, show.Expr, n, false, "")
		if !show.Same(n, n) || !show.Same(show.Strip(n), n) {
			t.Error("not the same")
		}
	}
	if !show.Same(deep, other) || show.Same(deep, other.L[0]) || show.Strip(deep).L[0].At != 0 || deep.L[0].At != 5 {
		t.Error("deep")
	}
	long := v(strings.Repeat("a", 1<<20))
	for range 590 {
		long = of(api.ECat, "", long, v("b"))
	}
	refused(t, lines(long))
	names := api.Node{K: api.IKeep, P: slices.Repeat([]string{strings.Repeat("a", 1<<10)}, 1<<10)}
	refused(t, of(api.Program, "", names), of(api.Program, "", names, names))
}
