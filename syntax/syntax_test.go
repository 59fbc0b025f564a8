package syntax_test

import (
	"strconv"
	"strings"
	"testing"

	"auklet/api"
	"auklet/syntax"
)

// kinds are the names of the kinds of nodes, as the tests tell trees.
const kinds = "num str regex var index field = cond or and in match cmp cat bin un step call own get " +
	"expr print format if while do for each block next exit return break continue delete begin end rule range func keep program"

// told is a tree as a text: numbers, texts, patterns and variables as they are, other nodes with their kind, sign, names and parts in brackets; with at also with their places.
func told(n api.Node, at bool) string {
	place := ""
	if at {
		place = "@" + strconv.Itoa(n.At)
	}
	if len(n.P) == 0 && len(n.L) == 0 && n.K < api.EIndex && (n.K == api.ENum) == (n.S == "") && (n.K == api.ENum || n.N == 0) {
		return []string{strconv.FormatFloat(float64(n.N)/api.One, 'f', -1, 64), strconv.Quote(n.S), "/" + n.S + "/", n.S}[n.K] + place
	}
	s := "(" + strings.Fields(kinds)[n.K]
	if n.S != "" {
		s += ":" + n.S
	}
	if n.N != 0 {
		s += "#" + strconv.FormatInt(n.N, 10)
	}
	if len(n.P) > 0 {
		s += ":" + strings.Join(n.P, ",")
	}
	s += place
	for _, part := range n.L {
		s += " " + told(part, at)
	}
	return s + ")"
}

// row is a text, and its tree as told says it.
type row struct{ s, want string }

// holdExpr holds Expr against rows: all of these are read.
func holdExpr(t *testing.T, rows []row) {
	t.Helper()
	for _, x := range rows {
		if n, at, e := syntax.Expr(x.s); told(n, false) != x.want || at != 0 || e != api.OK {
			t.Errorf("Expr(%q): %s, %d, %v, not %s", x.s, told(n, false), at, e, x.want)
		}
	}
}

// hold holds Parse against rows: all of these are read; of the program stand its items alone.
func hold(t *testing.T, rows []row) {
	t.Helper()
	for _, x := range rows {
		n, at, e := syntax.Parse(x.s)
		want := "(program " + x.want + ")"
		if x.want == "" {
			want = "(program)"
		}
		if told(n, false) != want || at != 0 || e != api.OK {
			t.Errorf("Parse(%q): %s, %d, %v, not %s", x.s, told(n, false), at, e, want)
		}
	}
}

// holdStmts holds Parse against rows, each of them statements of a BEGIN.
func holdStmts(t *testing.T, rows []row) {
	t.Helper()
	for _, x := range rows {
		want := "(begin (block " + x.want + "))"
		if x.want == "" {
			want = "(begin (block))"
		}
		hold(t, []row{{"BEGIN {" + x.s + "}", want}, {"BEGIN { " + x.s + " }", want}, {"BEGIN {\n" + x.s + "\n}", want}})
	}
}

// wrong is a text that can't be read, the place, the error.
type wrong struct {
	s  string
	at int
	e  api.Errno
}

// none holds an answer against x: there is none.
func none(t *testing.T, what string, x wrong, n api.Node, at int, e api.Errno) {
	t.Helper()
	if told(n, true) != "0@0" || at != x.at || e != x.e {
		t.Errorf("%s(%.80q): %.80s, %d, %v, not %d, %v", what, x.s, told(n, true), at, e, x.at, x.e)
	}
}

// refusedExpr holds Expr against rows: all of these are errors.
func refusedExpr(t *testing.T, rows []wrong) {
	t.Helper()
	for _, x := range rows {
		n, at, e := syntax.Expr(x.s)
		none(t, "Expr", x, n, at, e)
	}
}

// refused holds Parse against rows: all of these are errors.
func refused(t *testing.T, rows []wrong) {
	t.Helper()
	for _, x := range rows {
		n, at, e := syntax.Parse(x.s)
		none(t, "Parse", x, n, at, e)
	}
}

// goesWrong holds texts against a rule: in each a ^ stands ahead of the token with which nothing goes on.
func goesWrong(t *testing.T, refused func(t *testing.T, rows []wrong), marked ...string) {
	t.Helper()
	for _, s := range marked {
		ahead, behind, _ := strings.Cut(s, "^")
		refused(t, []wrong{{ahead + behind, len(ahead), api.ErrForm}})
	}
}

// P12.1, P12.2: operands without signs.
func TestPrimary(t *testing.T) {
	holdExpr(t, []row{
		{"1", "1"}, {"1.5", "1.5"}, {".5", "0.5"}, {"1.", "1"}, {"007", "7"}, {"0", "0"}, {"1.23456789", "1.234567"}, {"9223372036854.775807", "9223372036854.775"},
		{`"a\tb"`, `"a\tb"`}, {`"x"`, `"x"`}, {"/a[/]\\/b/", "/a[/]/b/"}, {"x", "x"},
		{"x[1]", "(index:x 1)"}, {"x [ 1 , \n\n y]", "(index:x 1 y)"}, {"x[y[1]]", "(index:x (index:y 1))"}, {"x[a = 1, b > 2]", "(index:x (=:= a 1) (cmp:> b 2))"},
		{"$1", "(field 1)"}, {"$x", "(field x)"}, {"$$x", "(field (field x))"}, {"$x[1]", "(field (index:x 1))"}, {"$(x + 1)", "(field (bin:+ x 1))"}, {"$++x", "(field (step:++x x))"}, {"$--x", "(field (step:--x x))"},
		{"$--$x", "(field (step:--x (field x)))"}, {"$f(x)", "(field (call:f x))"}, {"$length", "(field (own:length))"}, {"$length(x)", "(field (own:length x))"}, {`$"1"`, `(field "1")`}, {"$getline", "(field (get))"},
		{"$getline x", "(field (get:v x))"}, {"$getline < x", "(field (get:f x))"}, {"$x y", "(cat (field x) y)"}, {"$1.5.5", "(cat (field 1.5) 0.5)"}, {"$x * 2", "(bin:* (field x) 2)"},
		{"(x)", "x"}, {"((x))", "x"}, {"(x = 1)", "(=:= x 1)"}, {"(x ? y : z)", "(cond x y z)"}, {"(a b) c", "(cat (cat a b) c)"}, {"a (b c)", "(cat a (cat b c))"},
		{"f()", "(call:f)"}, {"f(x)", "(call:f x)"}, {"f( x ,\n\n y, 1 > 2 )", "(call:f x y (cmp:> 1 2))"}, {"f(g(x), (y))", "(call:f (call:g x) y)"}, {"f(a = b)", "(call:f (=:= a b))"}, {"f(x)(y)", "(cat (call:f x) y)"}, {"f (x)", "(cat f x)"},
		{"length", "(own:length)"}, {"length()", "(own:length)"}, {"length ( )", "(own:length)"}, {"length(x)", "(own:length x)"}, {"length (x)", "(own:length x)"}, {"length $1", "(cat (own:length) (field 1))"}, {"length x", "(cat (own:length) x)"},
		{"length + 1", "(bin:+ (own:length) 1)"}, {"length / 2", "(bin:/ (own:length) 2)"}, {"length length", "(cat (own:length) (own:length))"}, {"(length)(x)", "(cat (own:length) x)"}, {"length > 72", "(cmp:> (own:length) 72)"},
		{"int (x)", "(own:int x)"}, {"sync()", "(own:sync)"}, {"sprintf(a,b,c,d)", "(own:sprintf a b c d)"}, {"gsub(/a/, \"b\")", "(own:gsub /a/ \"b\")"},
		{"getline", "(get)"}, {"getline x", "(get:v x)"}, {"getline < x", "(get:f x)"}, {"getline x < y", "(get:vf x y)"}, {"getline x[1] < \"f\"", "(get:vf (index:x 1) \"f\")"}, {"getline $1", "(get:v (field 1))"}, {"getline < (a b)", "(get:f (cat a b))"},
		{"getline < $1", "(get:f (field 1))"}, {"getline < a[1]", "(get:f (index:a 1))"}, {"getline < f(x)", "(get:f (call:f x))"}, {"getline < getline < x", "(get:f (get:f x))"}, {"getline < /x/", "(get:f /x/)"}, {"getline $++x < y", "(get:vf (field (step:++x x)) y)"},
		{"getline $getline x < y < z", "(get:vf (field (get:vf x y)) z)"},
	})
	goesWrong(t, refusedExpr,
		"^", "^)", "^,", "^=", "^*", "^]", "^}", "^{", "^;", "^~", "^<", "^>", "^?", "^:", "^||", "^in", "^print", "^if", "^BEGIN", "^\n", "^\nx", "x^\n", "x ^}", "x ^,", "x ^, y", "x ^)", "x ^]", "x ^;", "x ^:", "x ^print", "  ^", " # x^",
		"(^", "(^)", "(x^", "(x ^]", "(x^\n)", "(^\nx)", "(x^;)", "(^,x)", "x[^", "x[^]", "x[1^", "x[1 ^)", "x[1,^]", "x[^\n1]", "x[1^\n]", "x[1]^[2]", "1^[1]", "(x)^[1]", "$x[1]^[2]", "x[1 ^; 2]",
		"$^", "$^-1", "$^!x", "$^+x", "$^*", "$^)", "$++^1", "$++^(x)", "$++^", "$++^++x", "$^in", "$int^", "$^=", "$^= 1", "$++^= 1", "$int ^= 1", "$^/x/", "$$^",
		"f(^", "f(^,)", "f(x,^)", "f(^\nx)", "f(x^\n)", "f(x^\n,y)", "f(x^;y)", "f(x^]", "f(x)(^", "f(x, ^in)", "f(x,y^", "f(^]",
		"int^", "int ^x", "substr^", "sync^", "gsub^\n(a, b)", "length(x^", "length(x^\n)", "length(^\n)", "length(x,^)", "tolower ^+ x", "length in^", "length ^getline",
		"getline x ^= y", "getline <^", "getline < ^-1", "getline < ^!x", "getline < ^++x", "getline < ^\nx", "getline x++^", "getline in^", "getline ^print", "x ^getline", "x ^getline y", "1 /x/^", "/x/ ^/y/", "(x) ^!y", "\"a\" ^!\"b\"",
	)
}

// P12.1, P12.2: signs ahead and behind: each with its operands.
func TestSigns(t *testing.T) {
	holdExpr(t, []row{
		{"-x", "(un:- x)"}, {"!x", "(un:! x)"}, {"+x", "(un:+ x)"}, {"- -x", "(un:- (un:- x))"}, {"!!x", "(un:! (un:! x))"}, {"!-+x", "(un:! (un:- (un:+ x)))"}, {"-1", "(un:- 1)"}, {"!/x/", "(un:! /x/)"}, {"-(x)", "(un:- x)"}, {"!x++", "(un:! (step:x++ x))"}, {"- --x", "(un:- (step:--x x))"}, {"!getline", "(un:! (get))"},
		{"++x", "(step:++x x)"}, {"--x", "(step:--x x)"}, {"x++", "(step:x++ x)"}, {"x--", "(step:x-- x)"}, {"x ++", "(step:x++ x)"}, {"x[1]++", "(step:x++ (index:x 1))"}, {"++x[1]", "(step:++x (index:x 1))"}, {"$1++", "(step:x++ (field 1))"}, {"$x++", "(step:x++ (field x))"}, {"--$x", "(step:--x (field x))"}, {"$++x++", "(step:x++ (field (step:++x x)))"}, {"$$x--", "(step:x-- (field (field x)))"}, {"++$++x", "(step:++x (field (step:++x x)))"}, {"$(x)++", "(step:x++ (field x))"}, {"$(x++)", "(field (step:x++ x))"}, {"$(x++)--", "(step:x-- (field (step:x++ x)))"},
		{"x++ y", "(cat (step:x++ x) y)"}, {"x ++y", "(cat (step:x++ x) y)"}, {"x++ ++y", "(cat (step:x++ x) (step:++x y))"}, {"1 ++x", "(cat 1 (step:++x x))"}, {"(x)++y", "(cat x (step:++x y))"}, {"++x ++y", "(cat (step:++x x) (step:++x y))"}, {"x++ + y", "(bin:+ (step:x++ x) y)"}, {"x+++y", "(bin:+ (step:x++ x) y)"}, {"x + ++y", "(bin:+ x (step:++x y))"}, {"x - -y", "(bin:- x (un:- y))"}, {"x--y", "(cat (step:x-- x) y)"}, {"getline x ++y", "(cat (get:v x) (step:++x y))"}, {"getline < x --y", "(cat (get:f x) (step:--x y))"}, {"f(x)++y", "(cat (call:f x) (step:++x y))"},
		{"x * y", "(bin:* x y)"}, {"x / y", "(bin:/ x y)"}, {"x % y", "(bin:% x y)"}, {"x * y / z % 2", "(bin:% (bin:/ (bin:* x y) z) 2)"}, {"x + y - z", "(bin:- (bin:+ x y) z)"}, {"x - y * z", "(bin:- x (bin:* y z))"}, {"x * y + z", "(bin:+ (bin:* x y) z)"}, {"x * (y + z)", "(bin:* x (bin:+ y z))"}, {"x - (y - z)", "(bin:- x (bin:- y z))"}, {"-x * y", "(bin:* (un:- x) y)"}, {"x * -y", "(bin:* x (un:- y))"}, {"x * !y", "(bin:* x (un:! y))"}, {"- x - y", "(bin:- (un:- x) y)"}, {"x / /y/", "(bin:/ x /y/)"}, {"/x/ + /y/", "(bin:+ /x/ /y/)"}, {"x++ / y / z", "(bin:/ (bin:/ (step:x++ x) y) z)"}, {"!x + y", "(bin:+ (un:! x) y)"},
		{"a b", "(cat a b)"}, {"a b c", "(cat (cat a b) c)"}, {"a b + c", "(cat a (bin:+ b c))"}, {"a + b c", "(cat (bin:+ a b) c)"}, {"a -b", "(bin:- a b)"}, {"a (-b)", "(cat a (un:- b))"}, {"1 \" \" -1", "(cat 1 (bin:- \" \" 1))"}, {"1 2", "(cat 1 2)"}, {`"a" "b"`, `(cat "a" "b")`}, {"a f(b)", "(cat a (call:f b))"}, {"a length", "(cat a (own:length))"}, {"a $1", "(cat a (field 1))"}, {"a (b)", "(cat a b)"}, {"-a b", "(cat (un:- a) b)"}, {"/x/ a", "(cat /x/ a)"}, {"getline < \"a\" \"b\"", "(cat (get:f \"a\") \"b\")"}, {"getline f(x)", "(cat (get) (call:f x))"}, {"getline 1", "(cat (get) 1)"}, {"a * b c * d", "(cat (bin:* a b) (bin:* c d))"}, {"1 1.5.5", "(cat (cat 1 1.5) 0.5)"},
		{"a < b", "(cmp:< a b)"}, {"a <= b", "(cmp:<= a b)"}, {"a == b", "(cmp:== a b)"}, {"a != b", "(cmp:!= a b)"}, {"a > b", "(cmp:> a b)"}, {"a >= b", "(cmp:>= a b)"}, {"a b < c d", "(cmp:< (cat a b) (cat c d))"}, {"a < b + c", "(cmp:< a (bin:+ b c))"}, {"(a < b) < c", "(cmp:< (cmp:< a b) c)"}, {"a < (b < c)", "(cmp:< a (cmp:< b c))"}, {"!a < b", "(cmp:< (un:! a) b)"}, {"getline x < y < z", "(cmp:< (get:vf x y) z)"}, {"getline < x > y", "(cmp:> (get:f x) y)"}, {"getline == 1", "(cmp:== (get) 1)"}, {"a == /x/", "(cmp:== a /x/)"}, {"a > getline < b", "(cmp:> a (get:f b))"},
		{"a ~ b", "(match:~ a b)"}, {"a !~ b", "(match:!~ a b)"}, {"a ~ b !~ c", "(match:!~ (match:~ a b) c)"}, {"a ~ b < c", "(match:~ a (cmp:< b c))"}, {"a < b ~ c", "(match:~ (cmp:< a b) c)"}, {"a b ~ c d", "(match:~ (cat a b) (cat c d))"}, {"!a ~ b", "(match:~ (un:! a) b)"}, {"a ~ /b/", "(match:~ a /b/)"}, {"a ~ (b ~ c)", "(match:~ a (match:~ b c))"}, {"a < b ~ c < d", "(match:~ (cmp:< a b) (cmp:< c d))"},
		{"a in x", "(in:x a)"}, {"a in x in y", "(in:y (in:x a))"}, {"(a) in x", "(in:x a)"}, {"(a, b) in x", "(in:x a b)"}, {"(a,\n\nb,c) in x in y", "(in:y (in:x a b c))"}, {"((a, b) in x)", "(in:x a b)"}, {"((a, b) in x, c) in y", "(in:y (in:x a b) c)"}, {"(a > b, c = d) in x", "(in:x (cmp:> a b) (=:= c d))"}, {"a ~ b in x", "(in:x (match:~ a b))"}, {"!a in x", "(in:x (un:! a))"}, {"a b in x", "(in:x (cat a b))"}, {"a in x && b", "(and (in:x a) b)"}, {"f(a, b) in x", "(in:x (call:f a b))"}, {"(f(a, b)) in x", "(in:x (call:f a b))"}, {"(x[1, 2]) in x", "(in:x (index:x 1 2))"}, {"(x[1, 2], f(3, 4)) in x", "(in:x (index:x 1 2) (call:f 3 4))"}, {"a < b in x", "(in:x (cmp:< a b))"},
		{"a && b", "(and a b)"}, {"a && b && c", "(and (and a b) c)"}, {"a &&\n\n b", "(and a b)"}, {"a && b in x", "(and a (in:x b))"}, {"a && (b, c) in x", "(and a (in:x b c))"}, {"a ~ b && c ~ d", "(and (match:~ a b) (match:~ c d))"}, {"a && (b && c)", "(and a (and b c))"}, {"a && !b", "(and a (un:! b))"},
		{"a || b", "(or a b)"}, {"a || b || c", "(or (or a b) c)"}, {"a ||\n\n b", "(or a b)"}, {"a || b && c", "(or a (and b c))"}, {"a && b || c", "(or (and a b) c)"}, {"(a || b) && c", "(and (or a b) c)"}, {"a || (b, c) in x || d", "(or (or a (in:x b c)) d)"},
		{"a ? b : c", "(cond a b c)"}, {"a ? b : c ? d : e", "(cond a b (cond c d e))"}, {"a ? b ? c : d : e", "(cond a (cond b c d) e)"}, {"a ?\n\n b :\n\n c", "(cond a b c)"}, {"a || b ? c || d : e || f", "(cond (or a b) (or c d) (or e f))"}, {"a ? b = 1 : c = 2", "(cond a (=:= b 1) (=:= c 2))"}, {"a ? (b, c) in x : (d, e) in y", "(cond a (in:x b c) (in:y d e))"}, {"(a, b) in x ? c : d", "(cond (in:x a b) c d)"}, {"(a ? b : c) ? d : e", "(cond (cond a b c) d e)"},
		{"a = b", "(=:= a b)"}, {"a += b", "(=:+ a b)"}, {"a -= b", "(=:- a b)"}, {"a *= b", "(=:* a b)"}, {"a /= b", "(=:/ a b)"}, {"a %= b", "(=:% a b)"}, {"a = b = c", "(=:= a (=:= b c))"}, {"a += b -= c", "(=:+ a (=:- b c))"}, {"a =\n\n b", "(=:= a b)"}, {"a[1] = b", "(=:= (index:a 1) b)"}, {"a[b = 1, c] = d", "(=:= (index:a (=:= b 1) c) d)"}, {"$1 = b", "(=:= (field 1) b)"}, {"$++a = b", "(=:= (field (step:++x a)) b)"}, {"$$a[1] = b", "(=:= (field (field (index:a 1))) b)"}, {"$(a = 1) = b", "(=:= (field (=:= a 1)) b)"}, {"$f(a) = b", "(=:= (field (call:f a)) b)"}, {"$length = b", "(=:= (field (own:length)) b)"}, {"$length(a) = b", "(=:= (field (own:length a)) b)"}, {"$\"1\" = b", "(=:= (field \"1\") b)"},
		{"$getline = b", "(=:= (field (get)) b)"}, {"$getline a = b", "(=:= (field (get:v a)) b)"}, {"$getline < a[1] = b", "(=:= (field (get:f (index:a 1))) b)"}, {"$getline $a < f(1) = b", "(=:= (field (get:vf (field a) (call:f 1))) b)"}, {"$--$a[1] /= b", "(=:/ (field (step:--x (field (index:a 1)))) b)"},
		{"a = b ? c : d", "(=:= a (cond b c d))"}, {"a = b || c", "(=:= a (or b c))"}, {"a = (b, c) in x", "(=:= a (in:x b c))"}, {"a = b > c", "(=:= a (cmp:> b c))"}, {"a = b c", "(=:= a (cat b c))"}, {"(a = b) c", "(cat (=:= a b) c)"}, {"a (b = c)", "(cat a (=:= b c))"}, {"a = !b", "(=:= a (un:! b))"}, {"a == b", "(cmp:== a b)"},
	})
	goesWrong(t, refusedExpr,
		"-^", "!^", "- ^)", "-^\nx", "! ^in", "- ^*", "++^", "++^1", "++^(x)", "++^f(x)", "++^++x", "--^-x", "++^length", "++x++^", "x++ ++^", "(x)++^", "1++^", "f(x)--^", "x++^\n", "++^\nx", "++ ^", "length++^", "x++ ^[1]",
		"x *^", "x + ^)", "x +^\n y", "x^\n+ y", "x * ^* y", "x - ^in", "x / ^in", "x % ^= y", "x + ^= y", "x + ^= 1",
		"a ^!b", "a ^print", "a b ^]", "a < ^", "a < ^< b", "a < b ^< c", "a < b ^> c", "a == b ^== c", "a == b ^!= c", "a >= ^= b", "a <^\n b", "a^\n< b", "a == ^= b", "a > b ^> c", "a > b ^>= c",
		"a ~^", "a ~ ^~ b", "a ~^\n b", "a ~ b ^!c", "a !~ ^in", "a ~ (a ^, b) in c",
		"a in^", "a in ^1", "a in ^(x)", "a in ^f(x)", "a in x ^y", "a in x ^~ y", "a in x ^< y", "a in x ^[1]", "a in^\n x", "a in ^$x", "a in ^length", "a in ^in", "(a, b)^", "(a, b) ^c", "(a, b) ^+ c", "(a, b) ^~ c", "(a, b) ^&& c", "(a, b)^, c", "(a, b)^\nin x", "(a, ^)", "(a,^", "(^, a) in x", "(a, b^] in x", "(a, b^; c)", "(a^\n, b) in x", "(a, b^", "(a, b) ^= c", "(a, b) ^++c", "(a, b) ^[1]", "((a, b)^)", "((a, b)^, c) in x",
		"a + (b^, c) in x", "!(b^, c) in x", "-(b^, c)", "a (b^, c) in x", "a ~ (b^, c) in x", "a < (b^, c) in x", "a * (b^, c)", "$(b^, c) in x", "getline < (b^, c)", "(a, b) in x ^(c, d) in y", "(a) (b^, c) in x", "(a b) + (c^, d)",
		"a &&^", "a && ^&& b", "a && ^|| b", "a^\n&& b", "a && ^in", "a ||^", "a || ^|| b", "a^\n|| b", "a && b ^= c", "a || b ^= c", "a && ^)",
		"a ?^", "a ? ^: b", "a ? b^", "a ? b ? c^", "a ? b^\n: c", "a^\n? b : c", "a ? b :^", "a ? b : c ^: d", "a ? b ^, c : d", "a ? b : ^)", "a ? b ^; c", "a ? b : c ? d^", "a ^: b",
		"a =^", "a = ^= b", "a = ^)", "a^\n= b", "a + b ^= c", "1 ^= a", "\"a\" ^= b", "(a) ^= b", "(a[1]) ^+= b", "($a) ^= b", "-a ^= b", "!a ^= b", "a++ ^= b", "++a ^= b", "f(a) ^= b", "length ^= b", "a b ^= c", "a == b ^= c", "a ~ b ^= c", "a in x ^= c", "a ? b : (c) ^= d", "$a++ ^= b", "$a b ^= c", "a[1] b ^= c", "$(a) b ^= c", "getline ^= b", "getline a ^= b", "getline < a ^= b", "a = b + c ^= d", "$1 * a ^= b", "/a/ ^= b", "a = 1 ^+= 1", "a[1 ^= 2", "a[1^) = 2", "$(1^] = 2", "a[1^", "$a[1^",
	)
}

// P12.1, P12.2: statements, and what ends them.
func TestStatements(t *testing.T) {
	holdStmts(t, []row{
		{"", ""}, {";", "(block)"}, {";;", "(block) (block)"}, {"\n\n", ""}, {"a", "(expr a)"}, {"a;", "(expr a)"}, {"a\n", "(expr a)"}, {"a;;", "(expr a) (block)"}, {"a\n\n;b", "(expr a) (block) (expr b)"}, {"a; b", "(expr a) (expr b)"}, {"a\nb", "(expr a) (expr b)"}, {"a # b\nc", "(expr a) (expr c)"},
		{"{}", "(block)"}, {"{}{}", "(block) (block)"}, {"{a} b", "(block (expr a)) (expr b)"}, {"{a;b}", "(block (expr a) (expr b))"}, {"{\n\n}", "(block)"}, {"{{a}}", "(block (block (expr a)))"}, {"{};{}", "(block) (block) (block)"}, {"{a\n}\n{;}", "(block (expr a)) (block (block))"},
		{"next", "(next)"}, {"next;", "(next)"}, {"break", "(break)"}, {"continue", "(continue)"}, {"break; continue", "(break) (continue)"}, {"exit", "(exit)"}, {"exit 1", "(exit 1)"}, {"exit -1", "(exit (un:- 1))"}, {"exit a = b", "(exit (=:= a b))"}, {"exit; 1", "(exit) (expr 1)"}, {"exit\n1", "(exit) (expr 1)"}, {"return", "(return)"}, {"return a b", "(return (cat a b))"}, {"return (a, b) in c", "(return (in:c a b))"}, {"return /a/", "(return /a/)"}, {"return\n(a)", "(return) (expr a)"}, {"exit getline", "(exit (get))"},
		{"delete a", "(delete:a)"}, {"delete a[1]", "(delete:a 1)"}, {"delete a[1,\n2 > 3]", "(delete:a 1 (cmp:> 2 3))"}, {"delete a; b", "(delete:a) (expr b)"},
		{"a > b", "(expr (cmp:> a b))"}, {"a = 1", "(expr (=:= a 1))"}, {"getline", "(expr (get))"}, {"!a", "(expr (un:! a))"}, {"/a/", "(expr /a/)"}, {"++a; a++", "(expr (step:++x a)) (expr (step:x++ a))"}, {"$1", "(expr (field 1))"}, {"length", "(expr (own:length))"}, {"f()", "(expr (call:f))"}, {"\"a\"", `(expr "a")`}, {"(a, b) in c", "(expr (in:c a b))"}, {"a in b", "(expr (in:b a))"}, {"-1; +1", "(expr (un:- 1)) (expr (un:+ 1))"},
	})
	goesWrong(t, refused,
		"{^", "{ a^", "{ a;^", "{ a^) }", "{ a ^, b }", "{ a ^] }", "{ a ^: }", "{ a b ^print }", "{ ^, }", "{ ^) }", "{ ^else }", "{ ^in }", "{ ^BEGIN {} }", "{ ^END {} }", "{ ^function f() {} }", "{ ^persist a }", "{ ^* }", "{ ^= }", "{ ^> \"f\" }", "{ ^~ }", "{ {}^", "{ { a }^", "{ a; ^) }", "{ a ^{ } }",
		"{ next ^1 }", "{ next ^next }", "{ break ^a }", "{ continue ^) }", "{ exit ^* }", "{ exit ^, }", "{ exit 1 ^, 2 }", "{ exit ^print }", "{ return (a, b) ^}", "{ return ^) }", "{ exit^", "{ exit a^", "{ next^", "{ exit ^> 1 }",
		"{ delete^", "{ delete ^}", "{ delete ^1 }", "{ delete ^(a) }", "{ delete ^$1 }", "{ delete a ^b }", "{ delete a[^] }", "{ delete a[1^", "{ delete a[1] ^[2] }", "{ delete ^f(1) }", "{ delete ^length }", "{ delete a^, b }", "{ delete ^\na }", "{ delete a ^= 1 }", "{ delete a[1 ^} }", "{ delete a[1^) }", "{ delete ^in }",
	)
}

// P12.1, P12.2: if, while, do, for: where line feeds may stand, whose an else is.
func TestControl(t *testing.T) {
	holdStmts(t, []row{
		{"if (a) b", "(if a (expr b))"}, {"if(a)b;", "(if a (expr b))"}, {"if (a)\n\nb", "(if a (expr b))"}, {"if (a) ;", "(if a (block))"}, {"if (a) {}", "(if a (block))"}, {"if (a) b; c", "(if a (expr b)) (expr c)"}, {"if (a) b\nc", "(if a (expr b)) (expr c)"}, {"if (a) b\n\n;c", "(if a (expr b)) (block) (expr c)"},
		{"if (a) b; else c", "(if a (expr b) (expr c))"}, {"if (a) b\nelse c", "(if a (expr b) (expr c))"}, {"if (a) b;\n\n else \n\n c;", "(if a (expr b) (expr c))"}, {"if (a) {} else {}", "(if a (block) (block))"}, {"if (a) {}\n\nelse b", "(if a (block) (expr b))"}, {"if (a) ; else ;", "(if a (block) (block))"}, {"if (a) b; else c; d", "(if a (expr b) (expr c)) (expr d)"},
		{"if (a) if (b) c; else d", "(if a (if b (expr c) (expr d)))"}, {"if (a) if (b) c; else d; else e", "(if a (if b (expr c) (expr d)) (expr e))"}, {"if (a) { if (b) c } else d", "(if a (block (if b (expr c))) (expr d))"}, {"if (a) b; else if (c) d; else e", "(if a (expr b) (if c (expr d) (expr e)))"}, {"if (a) while (b) if (c) d; else e", "(if a (while b (if c (expr d) (expr e))))"}, {"if (a) if (b) c\n\n d", "(if a (if b (expr c))) (expr d)"},
		{"if (a > b) c", "(if (cmp:> a b) (expr c))"}, {"if ((a, b) in c) d", "(if (in:c a b) (expr d))"}, {"if (a = b) c", "(if (=:= a b) (expr c))"}, {"if (a) (b)", "(if a (expr b))"}, {"if (a) print b; else print c > d", "(if a (print b) (print:> c d))"}, {"if (a) next; else exit", "(if a (next) (exit))"}, {"if (a) print; else printf b", "(if a (print) (format b))"},
		{"while (a) b", "(while a (expr b))"}, {"while (a)\n\n b", "(while a (expr b))"}, {"while (a) ;", "(while a (block))"}, {"while (a) {b;c}", "(while a (block (expr b) (expr c)))"}, {"while (a) while (b) c; d", "(while a (while b (expr c))) (expr d)"}, {"while ((getline a < b) > 0) c", "(while (cmp:> (get:vf a b) 0) (expr c))"},
		{"do a; while (b)", "(do (expr a) b)"}, {"do a\nwhile (b)", "(do (expr a) b)"}, {"do a;\n\nwhile (b);", "(do (expr a) b)"}, {"do\n\n{a}\n\nwhile (b)\nc", "(do (block (expr a)) b) (expr c)"}, {"do {} while (a); b", "(do (block) a) (expr b)"}, {"do ; while (a)", "(do (block) a)"}, {"do do a; while (b); while (c)", "(do (do (expr a) b) c)"}, {"do do a; while (b)\n\n while (c)", "(do (do (expr a) b) c)"}, {"do if (a) b; while (c)", "(do (if a (expr b)) c)"}, {"do while (a) b; while (c)", "(do (while a (expr b)) c)"}, {"do if (a) b; else c\nwhile (d)", "(do (if a (expr b) (expr c)) d)"}, {"do {} while (a); while (b) c", "(do (block) a) (while b (expr c))"}, {"do {} while (a);;", "(do (block) a) (block)"},
		{"for (;;) a", "(for:000 (expr a))"}, {"for(;\n\n;\n\n)\n\na", "(for:000 (expr a))"}, {"for (a;b;c) d", "(for:111 (expr a) b (expr c) (expr d))"}, {"for (a;;) d", "(for:100 (expr a) (expr d))"}, {"for (;b;) d", "(for:010 b (expr d))"}, {"for (;;c) d", "(for:001 (expr c) (expr d))"}, {"for (a;b;) ;", "(for:110 (expr a) b (block))"}, {"for (a;;c) {}", "(for:101 (expr a) (expr c) (block))"}, {"for (;b;c) d; e", "(for:011 b (expr c) (expr d)) (expr e)"}, {"for (i = 0; i < 9; i++) s += i", "(for:111 (expr (=:= i 0)) (cmp:< i 9) (expr (step:x++ i)) (expr (=:+ s i)))"},
		{"for (next; a > b; exit) c", "(for:111 (next) (cmp:> a b) (exit) (expr c))"}, {"for (print; ; print a, b) c", "(for:101 (print) (print a b) (expr c))"}, {"for (print (a, b); ; print (a, b)) c", "(for:101 (print a b) (print a b) (expr c))"}, {"for (print a > b; c > d; print e >> f) g", "(for:111 (print:> a b) (cmp:> c d) (print:>> e f) (expr g))"}, {"for (print (a, b) > c;;print (a, b) >> c) d", "(for:101 (print:> a b c) (print:>> a b c) (expr d))"}, {"for (delete a; ; delete b[1]) c", "(for:101 (delete:a) (delete:b 1) (expr c))"}, {"for (exit 1; ; return) c", "(for:101 (exit 1) (return) (expr c))"}, {"for (break; ; continue) for (;;) d", "(for:101 (break) (continue) (for:000 (expr d)))"},
		{"for (a in b) c", "(each:a,b (expr c))"}, {"for(a in b)\n\nc", "(each:a,b (expr c))"}, {"for (a in b) for (c in d) ;", "(each:a,b (each:c,d (block)))"}, {"for (a in b) { c }", "(each:a,b (block (expr c)))"}, {"for (a in b;;) c", "(for:100 (expr (in:b a)) (expr c))"}, {"for (a in b in c;;) d", "(for:100 (expr (in:c (in:b a))) (expr d))"}, {"for ((a) in b;;) c", "(for:100 (expr (in:b a)) (expr c))"}, {"for ((a, b) in c;;) d", "(for:100 (expr (in:c a b)) (expr d))"}, {"for (;a in b;) c", "(for:010 (in:b a) (expr c))"}, {"for (;;a in b) c", "(for:001 (expr (in:b a)) (expr c))"}, {"for (a in b) if (c) d; else e", "(each:a,b (if c (expr d) (expr e)))"}, {"for (a in b && c;;) d", "(for:100 (expr (and (in:b a) c)) (expr d))"},
	})
	goesWrong(t, refused,
		"{ if ^a }", "{ if^", "{ if ^\n(a) b }", "{ if (^) a }", "{ if (a^\n) b }", "{ if (^\na) b }", "{ if (a ^; b) c }", "{ if (a^, b) c }", "{ if (a) ^}", "{ if (a)^", "{ if (a) ^else b }", "{ if (a) b ^else c }", "{ if (a) b; ; ^else c }", "{ if (a) b; else ^}", "{ if (a) {}; ^else b }", "{ if (a) b; else c; ^else d }", "{ if (a) b; else^", "{ if (a) b; c\n ^else d }", "{ if (a) ^) }", "{ if (a^", "{ if (a ^} b }", "{ if (a^] b }", "{ if (a) b^", "{ if (a) ^in }", "{ if (a) b;^",
		"{ while ^a }", "{ while (^) a }", "{ while (a) ^}", "{ while (a)\n^}", "{ while (a) ^else }", "{ while^", "{ while ^\n(a) b }", "{ while (a) b; ^else c }", "{ while (a ^; b) c }", "{ while (a^\n) b }",
		"{ do ^}", "{ do a ^while (b) }", "{ do a ^}", "{ do a; ^}", "{ do a; ^b", "{ do a; ^b; while (c) }", "{ do a; ^; while (b) }", "{ do {} ^}", "{ do {} ^; while (a) }", "{ do {} while ^}", "{ do {} while ^\n(a) }", "{ do {} while (^) }", "{ do {} while (a) ^b }", "{ do {} while (a) ^{} }", "{ do {} while (a) ^) }", "{ do {} while (a)^", "{ do while (a) ^}", "{ do^", "{ do {} while (a) ^while (b) }", "{ do {}\n^else }",
		"{ for ^a }", "{ for ^\n(;;) a }", "{ for (^) a }", "{ for (^\n;;) a }", "{ for (a^\n;;) b }", "{ for (a^) b }", "{ for (;^) a }", "{ for (;;^; a }", "{ for (;a^) b }", "{ for (;;a^; b) c }", "{ for (a^, b;;) c }", "{ for (;a^, b;) c }", "{ for (;;a^\n) b }", "{ for (;;) ^}", "{ for (;a^\n;) b }", "{ for (;^print;) a }", "{ for (;^next;) a }", "{ for (^{};;) a }", "{ for (^if (a) b;;) c }", "{ for (;;^{}) a }", "{ for (^in a) b }", "{ for (;;^;) a }", "{ for (;;) ^else }", "{ for^",
		"{ for (a in ^) b }", "{ for (a in b) ^}", "{ for (a in b ^c) d }", "{ for (a in ^(b)) c }", "{ for (a in ^1) b }", "{ for (a b in c^) d }", "{ for (a[1] in b^) c }", "{ for (a \"in\" b^) c }", "{ for ($1 in b^) c }", "{ for (1 in b^) c }", "{ for ((a) in b^) c }", "{ for ((a, b) in c^) d }", "{ for (a in b in c^) d }", "{ for (a in b^\n) c }", "{ for (a^\n in b) c }", "{ for (^\na in b) c }", "{ for (a in ^f(b)) c }", "{ for (f(a) in b^) c }", "{ for (a in^", "{ for (a in b^", "{ for (a^", "{ for (^", "{ for (a in b)^", "{ for (a in ^length) b }", "{ for (a = b in c^) d }", "{ for (a in b^] c }", "{ for (a in b^, c) d }",
	)
}

// P12.1, P12.2: print and printf: a > that is not in brackets says where to, and brackets may stand around all.
func TestPrint(t *testing.T) {
	holdStmts(t, []row{
		{"print", "(print)"}, {"print;", "(print)"}, {"print a", "(print a)"}, {"print a, b", "(print a b)"}, {"print a,\n\nb", "(print a b)"}, {"print a b", "(print (cat a b))"}, {"print -1", "(print (un:- 1))"}, {"print /a/", "(print /a/)"}, {"print !a", "(print (un:! a))"}, {"print getline", "(print (get))"}, {"print a = b, c = d", "(print (=:= a b) (=:= c d))"}, {"print; a", "(print) (expr a)"}, {"print\na", "(print) (expr a)"},
		{"printf a", "(format a)"}, {"printf a, b", "(format a b)"}, {"printf(\"%d\", a)", `(format "%d" a)`}, {"printf (a)", "(format a)"}, {"printf (a), b", "(format a b)"}, {"printf a, b > c", "(format:> a b c)"}, {"printf (a, b) >> c", "(format:>> a b c)"}, {"printf a >> \"f\"", `(format:>> a "f")`},
		{"print > a", "(print:> a)"}, {"print >> a", "(print:>> a)"}, {"print a > b", "(print:> a b)"}, {"print a, b >> c", "(print:>> a b c)"}, {"print a > b c", "(print:> a (cat b c))"}, {"print a > b + c", "(print:> a (bin:+ b c))"}, {"print a > -b", "(print:> a (un:- b))"}, {"print a > (b > c)", "(print:> a (cmp:> b c))"}, {"print a > (b ? c : d)", "(print:> a (cond b c d))"}, {"print a > /b/", "(print:> a /b/)"}, {"print a > b++", "(print:> a (step:x++ b))"}, {"print a > $1", "(print:> a (field 1))"}, {"print a > getline < b", "(print:> a (get:f b))"}, {"print a > b; c", "(print:> a b) (expr c)"}, {"print a > f(b > c)", "(print:> a (call:f (cmp:> b c)))"}, {"print a > b[c > d]", "(print:> a (index:b (cmp:> c d)))"}, {"print > (a) b", "(print:> (cat a b))"},
		{"print a < b", "(print (cmp:< a b))"}, {"print a >= b", "(print (cmp:>= a b))"}, {"print a == b > c", "(print:> (cmp:== a b) c)"}, {"print a ~ b > c", "(print:> (match:~ a b) c)"}, {"print a in b > c", "(print:> (in:b a) c)"}, {"print a && b > c", "(print:> (and a b) c)"}, {"print a || b > c", "(print:> (or a b) c)"}, {"print a ? b : c > d", "(print:> (cond a b c) d)"}, {"print a = b > c", "(print:> (=:= a b) c)"}, {"print a += b = c > d", "(print:> (=:+ a (=:= b c)) d)"}, {"print a ? b = 1 : c = 2 > d", "(print:> (cond a (=:= b 1) (=:= c 2)) d)"}, {"print !a > b", "(print:> (un:! a) b)"}, {"print getline < a > b", "(print:> (get:f a) b)"}, {"print a \"x\" > b", "(print:> (cat a \"x\") b)"},
		{"print (a > b)", "(print (cmp:> a b))"}, {"print (a > b) > c", "(print:> (cmp:> a b) c)"}, {"print f(a > b) > c", "(print:> (call:f (cmp:> a b)) c)"}, {"print a[b > c] > d", "(print:> (index:a (cmp:> b c)) d)"}, {"print a[b > c] = d > e", "(print:> (=:= (index:a (cmp:> b c)) d) e)"}, {"print length(a > b) > c", "(print:> (own:length (cmp:> a b)) c)"}, {"print $(a > b) > c", "(print:> (field (cmp:> a b)) c)"}, {"print (a > b) ? c : d > e", "(print:> (cond (cmp:> a b) c d) e)"}, {"print a, (b > c) (d > e) > f", "(print:> a (cat (cmp:> b c) (cmp:> d e)) f)"}, {"print (a > b, c) in d > e", "(print:> (in:d (cmp:> a b) c) e)"}, {"print (a)(b) > c", "(print:> (cat a b) c)"}, {"print a[(b > c)] > d", "(print:> (index:a (cmp:> b c)) d)"},
		{"print (a)", "(print a)"}, {"print (a) > b", "(print:> a b)"}, {"print (a), b", "(print a b)"}, {"print (a) b", "(print (cat a b))"}, {"print (a) * b", "(print (bin:* a b))"}, {"print (a, b)", "(print a b)"}, {"print(a,\n\nb)", "(print a b)"}, {"print (a, b) > c", "(print:> a b c)"}, {"print (a, b) >> c", "(print:>> a b c)"}, {"print (a, b); c", "(print a b) (expr c)"}, {"print (a, b)\n(c)", "(print a b) (expr c)"},
		{"print (a > b, c > d) > e", "(print:> (cmp:> a b) (cmp:> c d) e)"}, {"print (a, b) > c d", "(print:> a b (cat c d))"}, {"print (a, b) in c", "(print (in:c a b))"}, {"print (a, b) in c, d", "(print (in:c a b) d)"}, {"print (a, b) in c in d > e", "(print:> (in:d (in:c a b)) e)"}, {"print (a, b) in c ? d : e", "(print (cond (in:c a b) d e))"}, {"print (a, (b, c) in d)", "(print a (in:d b c))"}, {"print ((a, b) in c)", "(print (in:c a b))"}, {"print ((a, b) in c) > d", "(print:> (in:c a b) d)"}, {"print ((a), b)", "(print a b)"}, {"print ((a) (b), c)", "(print (cat a b) c)"}, {"print (f(a, b))", "(print (call:f a b))"}, {"print (f(a, b)) > c", "(print:> (call:f a b) c)"}, {"print (f(a, b)) c", "(print (cat (call:f a b) c))"}, {"print (a[b, c]) d", "(print (cat (index:a b c) d))"}, {"print (a[b, c], d)", "(print (index:a b c) d)"}, {"print (a ? b : c, d)", "(print (cond a b c) d)"}, {"print a, (b, c) in d", "(print a (in:d b c))"}, {"print a && (b, c) in d", "(print (and a (in:d b c)))"}, {"print (a = b, c)", "(print (=:= a b) c)"}, {"print (print2, a)", "(print print2 a)"}, {"if (a) print (b, c); else d", "(if a (print b c) (expr d))"},
	})
	goesWrong(t, refused,
		"{ print ^, a }", "{ print a, ^}", "{ print a, ^> b }", "{ print a,^", "{ print a ^) }", "{ print ^) }", "{ print ^* }", "{ print ^in a }", "{ print ^print }", "{ print a ^print b }", "{ print a ^] }", "{ print^", "{ print a^", "{ print ^< a }", "{ print ^= a }", "{ print ^~ }", "{ print (^) }", "{ print (a^", "{ print (a^\n) }", "{ print (a, ^) }", "{ print (^, a) }", "{ print (a, b^", "{ print (a, b^\n, c) }", "{ print (a, b^] }", "{ print (a^; b, c) }", "{ print (a ^} , b) }",
		"{ printf ^}", "{ printf^", "{ printf^\n}", "{ printf ^> a }", "{ printf ^; }", "{ printf ^, a }", "{ printf (^) }", "{ printf a, ^}", "{ printf (a, b) ^c }", "{ for (;;printf^) a }",
		"{ print > ^}", "{ print >^", "{ print > ^\na }", "{ print a > ^> b }", "{ print a > b ^> c }", "{ print a > b ^>> c }", "{ print a >> b ^> c }", "{ print a > b^, c }", "{ print a > b ^? c : d }", "{ print a > b ^~ c }", "{ print a > b ^< c }", "{ print a > b ^== c }", "{ print a > b ^in c }", "{ print a > b ^&& c }", "{ print a > b ^= c }", "{ print a > !b ^= c }", "{ print a > b ^) }", "{ print a > (b^, c) in d }", "{ print a > (b^, c) }", "{ print a ? b ^> c : d }", "{ print a ? b : c > d ^? e }", "{ print a ? b = c ^> d : e }", "{ print a > b ^|| c }", "{ print > ^in }", "{ print ^>= a }", "{ print a > ^, }", "{ print a >> ^* b }",
		"{ print (a, b) ^c }", "{ print (a, b)^, c }", "{ print (a, b) ^(c) }", "{ print (a, b) ^+ c }", "{ print (a, b) ^== c }", "{ print (a, b) ^>= c }", "{ print (a, b) ^< c }", "{ print (a, b) ^~ c }", "{ print (a, b) ^? c : d }", "{ print (a, b) ^&& c }", "{ print (a, b) ^] }", "{ print (a, b)^) }", "{ print (a, b) ^: }", "{ print (a, b) ^{ }", "{ print (a, b) ^= c }", "{ print (a, b) ^[1] }", "{ print ((a, b)^) }", "{ print ((a, b)^, c) }", "{ print (a) (b^, c) }", "{ print a (b^, c) }", "{ print !(a^, b) }", "{ print (a, b) in ^(c) }", "{ print (a, b) in c ^d }", "{ print (a, b) > c ^> d }", "{ print (a, b)^",
	)
	hold(t, []row{{"{ print (a, b) # c\n}", "(rule:01 (block (print a b)))"}, {"{ print (a, b)}", "(rule:01 (block (print a b)))"}, {"{ print (a) # c\n}", "(rule:01 (block (print a)))"}})
}

// P12.1, P12.2: items, and what stands between them.
func TestItems(t *testing.T) {
	hold(t, []row{
		{"", ""}, {" \t\\\n", ""}, {"# a", ""}, {"\n;\n;;", ""},
		{"BEGIN {}", "(begin (block))"}, {"END{}", "(end (block))"}, {"BEGIN {a} END {b}", "(begin (block (expr a))) (end (block (expr b)))"}, {"BEGIN{}BEGIN{}", "(begin (block)) (begin (block))"}, {"BEGIN {};END {}\n", "(begin (block)) (end (block))"}, {"BEGIN {\n}", "(begin (block))"},
		{"a", "(rule:10 a)"}, {"a {}", "(rule:11 a (block))"}, {"{}", "(rule:01 (block))"}, {"{}{}", "(rule:01 (block)) (rule:01 (block))"}, {"a\nb", "(rule:10 a) (rule:10 b)"}, {"a;b", "(rule:10 a) (rule:10 b)"}, {"a\n{}", "(rule:10 a) (rule:01 (block))"}, {"a;{}", "(rule:10 a) (rule:01 (block))"}, {"a {} b {}", "(rule:11 a (block)) (rule:11 b (block))"}, {"a {} {}", "(rule:11 a (block)) (rule:01 (block))"}, {"{} a", "(rule:01 (block)) (rule:10 a)"}, {"a b {c}", "(rule:11 (cat a b) (block (expr c)))"}, {"a;;\n;b;", "(rule:10 a) (rule:10 b)"},
		{"/a/", "(rule:10 /a/)"}, {"!/a/ {}", "(rule:11 (un:! /a/) (block))"}, {"a > b", "(rule:10 (cmp:> a b))"}, {"a > b { print c > d }", "(rule:11 (cmp:> a b) (block (print:> c d)))"}, {"a = b {}", "(rule:11 (=:= a b) (block))"}, {"(a, b) in c {}", "(rule:11 (in:c a b) (block))"}, {"getline < a {}", "(rule:11 (get:f a) (block))"}, {"-1", "(rule:10 (un:- 1))"}, {"1", "(rule:10 1)"}, {"$1 ~ /a/", "(rule:10 (match:~ (field 1) /a/))"}, {"\"a\" {}", `(rule:11 "a" (block))`}, {"f() {}", "(rule:11 (call:f) (block))"}, {"length > 1", "(rule:10 (cmp:> (own:length) 1))"}, {"++a", "(rule:10 (step:++x a))"},
		{"a, b", "(range:0 a b)"}, {"a, b {}", "(range:1 a b (block))"}, {"a,\n\nb {c}", "(range:1 a b (block (expr c)))"}, {"a, b; c, d", "(range:0 a b) (range:0 c d)"}, {"a, b {} c", "(range:1 a b (block)) (rule:10 c)"}, {"a ? b : c, d = e {}", "(range:1 (cond a b c) (=:= d e) (block))"}, {"/a/, /b/", "(range:0 /a/ /b/)"}, {"(a, b) in c, (d, e) in f", "(range:0 (in:c a b) (in:f d e))"}, {"a, b\n{}", "(range:0 a b) (rule:01 (block))"}, {"a > b, c > d", "(range:0 (cmp:> a b) (cmp:> c d))"}, {"(a), (b)", "(range:0 a b)"},
		{"function f() {}", "(func:f (block))"}, {"function f(a) {}", "(func:f:a (block))"}, {"function f (a,\n\nb , c)\n\n{ a }", "(func:f:a,b,c (block (expr a)))"}, {"function f() {} function g() {} a", "(func:f (block)) (func:g (block)) (rule:10 a)"}, {"function f( ) { return a }", "(func:f (block (return a)))"}, {"function f(a, a, f) {}", "(func:f:a,a,f (block))"},
		{"persist a", "(keep:a)"}, {"persist a, b,\n\nc", "(keep:a,b,c)"}, {"persist a; persist a", "(keep:a) (keep:a)"}, {"persist a\n{}", "(keep:a) (rule:01 (block))"}, {"persist a # b\nc", "(keep:a) (rule:10 c)"}, {"persist a;", "(keep:a)"},
		{"BEGIN { next; return; break } function f() { next }", "(begin (block (next) (return) (break))) (func:f (block (next)))"},
	})
	goesWrong(t, refused,
		"^}", "^)", "^,", "^*", "^]", "^in", "^else", "^print", "^print a", "^if (a) b", "^next", "^delete a", "^while", "^> a", "^= a", "^~ a", "^? a", "a; ^}", "a\n^, b", "{} ^}", "{}^, a", "{}^) ", "{} ^* a", "{} ^else",
		"BEGIN^", "BEGIN ^a", "BEGIN^\n{}", "BEGIN^;", "BEGIN ^END {}", "BEGIN {^", "BEGIN { a^", "BEGIN {} ^, a", "BEGIN ^( a ) {}", "END^", "END ^1 {}", "END^\n{}", "BEGIN {} ^}", "BEGIN { ^BEGIN }",
		"a ^}", "a ^)", "a b ^:", "a ^BEGIN {}", "a ^END {}", "a ^function f() {}", "a ^persist b", "a {^", "a { b ^) }", "a {} ^, b", "a { ^", "a ^print", "a ^if", "a {} ^}", "a ^] {}", "a < b ^< c {}",
		"a,^", "a, ^{}", "a, b^, c", "a, b ^}", "a, ^BEGIN {}", "a, ^;", "a, ^, b", "a, b ^BEGIN {}", "a, b^) {}", "a, b {^", "a, ^persist b", "a, b ^persist c",
		"function^", "function ^{}", "function ^1()", "function f^", "function f ^{}", "function f(^", "function f(^1) {}", "function f(a^", "function f(a ^b) {}", "function f(a,^) {}", "function f(^,) {}", "function f(a^\n) {}", "function f(^\na) {}", "function f(a^\n, b) {}", "function f()^", "function f() ^;", "function f() ^a", "function f()\n^; {}", "function f() {^", "function ^length() {}", "function ^length(a) {}", "function ^if() {}", "function ^BEGIN {}", "function f(^length) {}", "function f(^in) {}", "function f(^g()) {}", "function f(a, ^g(b)) {}", "function f(^$1) {}", "function f(a^[1]) {}", "function f^\n() {}", "function^\nf() {}", "function f()\n\n^}", "function f() {} ^, a", "function ^(a) {}", "function f(^(a)) {}", "function f(a ^= 1) {}", "function f^[a]",
		"persist^", "persist ^1", "persist^\na", "persist ^;", "persist a ^b", "persist a,^", "persist a, ^;", "persist a ^{}", "persist a^[1]", "persist ^f(a)", "persist ^length", "persist ^in", "persist a ^= 1", "persist a, ^, b", "persist ^(a)", "persist a ^}", "persist a ^persist b", "persist a ^BEGIN {}", "persist a\n^, b", "persist a, ^f(b)", "persist a, b ^c", "persist ^{}",
	)
}

// P12.2: At is the place of a part's first token; of what stands in brackets that of the bracket.
func TestPlaces(t *testing.T) {
	for _, x := range []row{
		{" x", "x@1"}, {"a  b + c", "(cat@0 a@0 (bin:+@3 b@3 c@7))"}, {"x = y = 1", "(=:=@0 x@0 (=:=@4 y@4 1@8))"}, {"(x)", "x@0"}, {"( ( x ) )", "x@0"}, {" (x = 1)", "(=:=@1 x@2 1@6)"}, {"(a) b", "(cat@0 a@0 b@4)"}, {"a (b + c)", "(cat@0 a@0 (bin:+@2 b@3 c@7))"}, {"(a + b) * (c)", "(bin:*@0 (bin:+@0 a@1 b@5) c@10)"}, {"((a) + b)", "(bin:+@0 a@1 b@7)"},
		{"-x", "(un:-@0 x@1)"}, {"! (x)", "(un:!@0 x@2)"}, {"++ x", "(step:++x@0 x@3)"}, {"x ++", "(step:x++@0 x@0)"}, {"$1 ++", "(step:x++@0 (field@0 1@1))"}, {"$ ++x", "(field@0 (step:++x@2 x@4))"}, {"$(x)", "(field@0 x@1)"}, {" $ ( x + 1 )", "(field@1 (bin:+@3 x@5 1@9))"}, {"a[ b, c ]", "(index:a@0 b@3 c@6)"}, {"a[(b)] = (c)", "(=:=@0 (index:a@0 b@2) c@9)"}, {"$a = b", "(=:=@0 (field@0 a@1) b@5)"},
		{"f( a,\nb )", "(call:f@0 a@3 b@6)"}, {"x int( a )", "(cat@0 x@0 (own:int@2 a@7))"}, {" length", "(own:length@1)"}, {"a getline2", "(cat@0 a@0 getline2@2)"}, {" getline a < b", "(get:vf@1 a@9 b@13)"}, {"!getline", "(un:!@0 (get@1))"}, {"getline < (a)", "(get:f@0 a@10)"}, {"a ~ /b/", "(match:~@0 a@0 /b/@4)"}, {"a < \"b\"", `(cmp:<@0 a@0 "b"@4)`},
		{" (a, b) in c", "(in:c@1 a@2 b@5)"}, {"(a, (b)) in c in d", "(in:d@0 (in:c@0 a@1 b@4))"}, {"((a, b) in c)", "(in:c@0 a@2 b@5)"}, {"a in b", "(in:b@0 a@0)"}, {"(a) in b", "(in:b@0 a@0)"}, {"a && (b, c) in d", "(and@0 a@0 (in:d@5 b@6 c@9))"}, {"a || b", "(or@0 a@0 b@5)"}, {"(a ? b : c) ? d : (e)", "(cond@0 (cond@0 a@1 b@5 c@9) d@14 e@18)"}, {" a ? b : c", "(cond@1 a@1 b@5 c@9)"}, {"a b c", "(cat@0 (cat@0 a@0 b@2) c@4)"}, {"a-b-c", "(bin:-@0 (bin:-@0 a@0 b@2) c@4)"}, {"a\\\n+ b", "(bin:+@0 a@0 b@5)"},
	} {
		if n, at, e := syntax.Expr(x.s); told(n, true) != x.want || at != 0 || e != api.OK {
			t.Errorf("Expr(%q): %s, %d, %v, not %s", x.s, told(n, true), at, e, x.want)
		}
	}
	for _, x := range []row{
		{"", "(program@0)"}, {"\n a", "(program@0 (rule:10@2 a@2))"}, {" a", "(program@1 (rule:10@1 a@1))"}, {"# b\n;a", "(program@3 (rule:10@5 a@5))"}, {" ; a, b { c }", "(program@1 (range:1@3 a@3 b@6 (block@8 (expr@10 c@10))))"}, {"(a) { }", "(program@0 (rule:11@0 a@0 (block@4)))"}, {" {}", "(program@1 (rule:01@1 (block@1)))"},
		{" BEGIN {a} END { }", "(program@1 (begin@1 (block@7 (expr@8 a@8))) (end@11 (block@15)))"}, {" function f(a)\n{ }", "(program@1 (func:f:a@1 (block@15)))"}, {"a; persist b", "(program@0 (rule:10@0 a@0) (keep:b@3))"},
		{"{ ;; { } }", "(program@0 (rule:01@0 (block@0 (block@2) (block@3) (block@5))))"}, {"{ (a); -b }", "(program@0 (rule:01@0 (block@0 (expr@2 a@2) (expr@7 (un:-@7 b@8)))))"}, {"{ print (a, b) > (c) }", "(program@0 (rule:01@0 (block@0 (print:>@2 a@9 b@12 c@17))))"}, {"{ print (a), b; printf (a) }", "(program@0 (rule:01@0 (block@0 (print@2 a@8 b@13) (format@16 a@23))))"},
		{"{ if (a) b; else c }", "(program@0 (rule:01@0 (block@0 (if@2 a@6 (expr@9 b@9) (expr@17 c@17)))))"}, {"{ while (a) ; }", "(program@0 (rule:01@0 (block@0 (while@2 a@9 (block@12)))))"}, {"{ do a; while ((b)) }", "(program@0 (rule:01@0 (block@0 (do@2 (expr@5 a@5) b@15))))"}, {"{ for (a; b; c) d }", "(program@0 (rule:01@0 (block@0 (for:111@2 (expr@7 a@7) b@10 (expr@13 c@13) (expr@16 d@16)))))"}, {"{ for (a in b) c }", "(program@0 (rule:01@0 (block@0 (each:a,b@2 (expr@15 c@15)))))"},
		{"{ next; exit a; return; break\ncontinue }", "(program@0 (rule:01@0 (block@0 (next@2) (exit@8 a@13) (return@16) (break@24) (continue@30))))"}, {"{ delete a; delete a[ b ] }", "(program@0 (rule:01@0 (block@0 (delete:a@2) (delete:a@12 b@22))))"},
	} {
		if n, at, e := syntax.Parse(x.s); told(n, true) != x.want || at != 0 || e != api.OK {
			t.Errorf("Parse(%q): %s, %d, %v, not %s", x.s, told(n, true), at, e, x.want)
		}
	}
}

// P12.3: what can't be read as tokens is told as it is, ahead of all else.
func TestTokens(t *testing.T) {
	for _, x := range []wrong{
		{"@", 0, api.ErrForm}, {") @", 2, api.ErrForm}, {"a \"b", 2, api.ErrShort}, {"1 + /b", 4, api.ErrShort}, {") ) " + strings.Repeat("a", 41), 4, api.ErrLong}, {strings.Repeat(";", 3000), 3000, api.ErrLong}, {strings.Repeat(" ", 8001), 0, api.ErrLong}, {"9999999999999999 &", 17, api.ErrForm}, {"sync(1) &", 8, api.ErrForm}, {strings.Repeat("(", 300) + "&", 300, api.ErrForm},
	} {
		refused(t, []wrong{x})
		refusedExpr(t, []wrong{x})
	}
	hold(t, []row{{strings.Repeat(";", 2999), ""}, {strings.Repeat(" ", 8000), ""}})
	if n, _, e := syntax.Expr("a" + strings.Repeat("+a", 1499)); syntax.Count(n) != 2999 || e != api.OK {
		t.Error(e)
	}
}

// P12.3: a number that is too great; what stands ahead of it is told first, what stands behind it is not told.
func TestTooGreat(t *testing.T) {
	holdExpr(t, []row{{"9223372036854.775807", "9223372036854.775"}, {"-9223372036854.775807", "(un:- 9223372036854.775)"}})
	refusedExpr(t, []wrong{
		{"9223372036854.775808", 0, api.ErrOver}, {"9223372036855", 0, api.ErrOver}, {"-9223372036854.775808", 1, api.ErrOver}, {"a + 99999999999999 + 1", 4, api.ErrOver}, {"(99999999999999", 1, api.ErrOver}, {"99999999999999 )", 0, api.ErrOver}, {"a ) 99999999999999", 2, api.ErrForm}, {strings.Repeat("9", 500), 0, api.ErrOver},
		{"a[99999999999999] = 1", 2, api.ErrOver}, {"(99999999999999, 2) in a", 1, api.ErrOver}, {"$99999999999999", 1, api.ErrOver}, {"f(1, 99999999999999", 5, api.ErrOver}, {"sync(99999999999999)", 5, api.ErrOver}, {"a in 99999999999999", 5, api.ErrForm}, {"++99999999999999", 2, api.ErrForm}, {"getline < 99999999999999", 10, api.ErrOver}, {"/a/ 99999999999999 99999999999999", 4, api.ErrOver},
		{"a ? 99999999999999", 4, api.ErrOver}, {"0.99999999999999999999 99999999999999.", 23, api.ErrOver},
	})
	refused(t, []wrong{
		{"99999999999999 {", 0, api.ErrOver}, {"a {} 99999999999999 }", 5, api.ErrOver}, {"{ print (99999999999999, 1", 9, api.ErrOver}, {"{ for (99999999999999 in a", 7, api.ErrOver}, {"{ exit 99999999999999", 7, api.ErrOver}, {"function f(99999999999999", 11, api.ErrForm}, {"persist 99999999999999", 8, api.ErrForm}, {"{ delete a[99999999999999", 11, api.ErrOver}, {"{ if (99999999999999", 6, api.ErrOver}, {"{ a; } }\n99999999999999", 7, api.ErrForm},
	})
}

// P12.3: the language's functions take as many arguments as they take, and some of them only what can be set.
func TestArguments(t *testing.T) {
	least := map[string]int{"length": 0, "int": 1, "tolower": 1, "toupper": 1, "index": 2, "match": 2, "substr": 2, "split": 2, "sub": 2, "gsub": 2, "sprintf": 1, "sync": 0}
	most := map[string]int{"length": 1, "int": 1, "tolower": 1, "toupper": 1, "index": 2, "match": 2, "substr": 3, "split": 3, "sub": 3, "gsub": 3, "sprintf": 100, "sync": 0}
	for name := range least {
		for many := range 6 {
			s := name + "(" + strings.Join([]string{"a", "b", "c", "d", "e"}[:many], ", ") + ")"
			if n, _, e := syntax.Expr(s); least[name] <= many && many <= most[name] {
				if e != api.OK || n.K != api.EOwn || n.S != name || len(n.L) != many {
					t.Errorf("%q: %s, %v", s, told(n, false), e)
				}
				continue
			}
			refusedExpr(t, []wrong{{s, 0, api.ErrForm}, {"a + " + s + " ) b", 4, api.ErrForm}, {"(" + s, 1, api.ErrForm}})
			refused(t, []wrong{{"{ print " + s, 8, api.ErrForm}, {s, 0, api.ErrForm}, {"\n" + s + " {", 1, api.ErrForm}})
		}
	}
	holdExpr(t, []row{
		{"split(1, a)", "(own:split 1 a)"}, {"split(1, (a))", "(own:split 1 a)"}, {"split(1, ((a)), /b/)", "(own:split 1 a /b/)"}, {"sub(1, 2, a)", "(own:sub 1 2 a)"}, {"sub(1, 2, a[1])", "(own:sub 1 2 (index:a 1))"}, {"sub(1, 2, $1)", "(own:sub 1 2 (field 1))"}, {"gsub(1, 2, (a))", "(own:gsub 1 2 a)"}, {"gsub(1, 2, (a[1]))", "(own:gsub 1 2 (index:a 1))"}, {"gsub(1, 2, ($1))", "(own:gsub 1 2 (field 1))"}, {"sub(1, 2)", "(own:sub 1 2)"}, {"substr(1, 2, 3)", "(own:substr 1 2 3)"}, {"sprintf(1)", "(own:sprintf 1)"}, {"gsub(/a/, \"b\", $getline a)", "(own:gsub /a/ \"b\" (field (get:v a)))"}, {"int(sprintf(length))", "(own:int (own:sprintf (own:length)))"},
	})
	for _, what := range []string{"1", "\"a\"", "/a/", "a b", "a + b", "-a", "!a", "+a", "a++", "++a", "f(a)", "length", "getline", "a = b", "a ? b : c", "a in b", "a ~ b", "a < b", "a || b", "a && b", "(1)", "(a b)"} {
		refusedExpr(t, []wrong{{"split(1, " + what + ")", 0, api.ErrForm}, {"split(1, " + what + ", 3) )", 0, api.ErrForm}, {" sub(1, 2, " + what + ")", 1, api.ErrForm}, {"gsub(1, 2, " + what + ") + +", 0, api.ErrForm}})
	}
	refusedExpr(t, []wrong{
		{"split(1, a[1])", 0, api.ErrForm}, {"split(1, $1)", 0, api.ErrForm}, {"int(int())", 4, api.ErrForm}, {"int(int(), 1)", 4, api.ErrForm}, {"int(int(1), 1)", 0, api.ErrForm}, {"int(1, 2", 8, api.ErrForm}, {"int(1, 2 3 ]", 11, api.ErrForm}, {"sync(1,)", 7, api.ErrForm}, {"sync(1, int())", 8, api.ErrForm}, {"a(int())", 2, api.ErrForm}, {"a[int()]", 2, api.ErrForm}, {"a[int()] = 1", 2, api.ErrForm}, {"$int() = 1", 1, api.ErrForm}, {"(sync(1), 2) in a", 1, api.ErrForm}, {"int ( )", 0, api.ErrForm}, {"a ) int()", 2, api.ErrForm}, {"int() 99999999999999", 0, api.ErrForm}, {"int() int()", 0, api.ErrForm},
	})
}

// P12.4: how many nodes there are, and how deep they are.
func TestCountAndDeep(t *testing.T) {
	for _, x := range []struct {
		n           api.Node
		count, deep int
	}{
		{api.Node{}, 1, 1}, {api.Node{K: api.Program, L: []api.Node{}}, 1, 1}, {api.Node{K: 99, L: []api.Node{{}}}, 2, 2}, {api.Node{K: -1, L: []api.Node{{}, {}, {}}}, 4, 2}, {api.Node{L: []api.Node{{L: []api.Node{{}}}, {}}}, 4, 3}, {api.Node{L: []api.Node{{}, {L: []api.Node{{}, {L: []api.Node{{}}}}}}}, 6, 4}, {api.Node{P: []string{"a", "b"}}, 1, 1},
	} {
		if c, d := syntax.Count(x.n), syntax.Deep(x.n); c != x.count || d != x.deep {
			t.Errorf("%s: %d, %d, not %d, %d", told(x.n, false), c, d, x.count, x.deep)
		}
	}
	for _, x := range []struct {
		s           string
		count, deep int
	}{{"", 1, 1}, {"a", 3, 3}, {"{}", 3, 3}, {"{;}", 4, 4}, {"a b + c", 7, 5}, {"a = 1; b", 7, 4}, {"persist a, b", 2, 2}, {"function f(a) { return a[1] = b }", 8, 7}, {"{ for (a in b) c; print d, e > f }", 10, 6}, {"{ for (;;) a }", 6, 6}} {
		if n, _, e := syntax.Parse(x.s); syntax.Count(n) != x.count || syntax.Deep(n) != x.deep || e != api.OK {
			t.Errorf("%q: %d, %d, not %d, %d", x.s, syntax.Count(n), syntax.Deep(n), x.count, x.deep)
		}
	}
	n, _, _ := syntax.Expr(strings.Repeat("$", 2998) + "a")
	if syntax.Count(n) != 2999 || syntax.Deep(n) != 2999 {
		t.Error(syntax.Count(n), syntax.Deep(n))
	}
	var chain api.Node
	for range 1<<16 - 1 {
		chain = api.Node{L: []api.Node{chain}}
	}
	if syntax.Count(chain) != 1<<16 || syntax.Deep(chain) != 1<<16 {
		t.Error(syntax.Count(chain), syntax.Deep(chain))
	}
}
