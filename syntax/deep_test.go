package syntax_test

import (
	"math/rand"
	"strconv"
	"strings"
	"testing"

	"auklet/api"
	"auklet/lex"
	"auklet/syntax"
)

// reading is Parse or Expr.
type reading func(s string) (api.Node, int, api.Errno)

// around is what stands around an operand, and how deep that is.
type around struct {
	ahead, behind string
	deep          int
}

// holdAround holds a reading against rows: signs ahead of the operand make it as deep as it may be, or deeper.
func holdAround(t *testing.T, read reading, rows []around) {
	t.Helper()
	for _, x := range rows {
		most := api.MaxDepth - x.deep
		for n := range most + 4 {
			s := x.ahead + strings.Repeat("!", n) + "a" + x.behind
			node, at, e := read(s)
			if n > most {
				none(t, x.ahead+strconv.Itoa(n), wrong{s, len(x.ahead) + most + 1, api.ErrLong}, node, at, e)
			} else if at != 0 || e != api.OK {
				t.Errorf("%q, %d signs, a, %q: %d, %v", x.ahead, n, x.behind, at, e)
			}
		}
	}
}

// P12.3: how deep each part of an expression is; what stood ahead of it makes it no deeper.
func TestHowDeepExpressions(t *testing.T) {
	holdAround(t, syntax.Expr, []around{
		{"", "", 0}, {"  ", "", 0}, {"(", ")", 1}, {"((", "))", 2}, {"!", "", 1}, {"- ", "", 1}, {"+", "", 1}, {"!(", ")", 2}, {"-+(", ")", 3},
		{"a*", "", 0}, {"a/", "", 0}, {"a-", "", 0}, {"a b+", "", 0}, {"a<", "", 0}, {"a>", "", 0}, {"a~", "", 0}, {"a&&\n", "", 0}, {"a||", "", 0}, {"a in b&&", "", 0}, {"(a,b)in c||", "", 0}, {"((a))*", "", 0}, {"!-+a*", "", 0}, {"$$a*", "", 0}, {"$(a)*", "", 0}, {"-a[1]*", "", 0}, {"f(!a,(b))*", "", 0}, {"$++a[1]+", "", 0}, {"", "*a", 0}, {"", " a in b", 0},
		{"a?", ":a", 1}, {"a?a:", "", 1}, {"!a?", ":a", 1}, {"a?(b):", "", 1}, {"a?b?", ":c:d", 2}, {"a?b:c?", ":d", 2}, {"a?b:c?d:", "", 2}, {"a?b=", ":c", 2}, {"a||", "?b:c", 0}, {"a=", "?b:c", 1}, {"a=b?c:", "", 2},
		{"a=", "", 1}, {"a%=\n", "", 1}, {"a=b=", "", 2}, {"a[1]=", "", 1}, {"$$a=", "", 1}, {"$(a)=", "", 1}, {"(a=b)*", "", 0}, {"(a=", ")", 2},
		{"f(", ")", 1}, {"f(1,", ")", 1}, {"f(", ",1)", 1}, {"length(", ")", 1}, {"sub(!a,-b,$a[", "])", 3}, {"sprintf(1,2,", ")", 1}, {"(", ",a)in a", 1}, {"(a,\n", ")in a", 1}, {"((", ",a)in b,c)in d", 2}, {"a=(", ",a)in a", 2},
		{"getline<(", ")", 1}, {"getline<$(", ")", 2}, {"getline a<f(", ")", 1}, {"getline<getline<(", ")", 1}, {"getline $a<(", ")", 1}, {"$getline<(", ")", 2}, {"$getline a<$(", ")", 3},
	})
	for _, place := range []around{{"a[", "]", 1}, {"a[1,", "]", 1}, {"a[(", ")]", 2}, {"$(", ")", 2}, {"$a[", "]", 2}, {"$$(", ")", 3}, {"$$a[", "]", 3}, {"$f(", ")", 2}, {"$length(", ")", 2}, {"$++a[", "]", 2}, {"$--$a[", "]", 3}, {"$getline<(", ")", 2}, {"$getline a[", "]", 2}, {"$getline $(", ")", 3}} {
		for _, x := range []around{{"", "", 0}, {"", "=1", 0}, {"", "/=b", 0}, {"", "++", 0}, {"", "--*a", 0}, {"++", "", 0}, {"--", "", 0}, {"getline ", "", 0}, {"getline ", "<a", 0}, {"!", "", 1}, {"- ", "++", 1}, {"$--", "", 1}, {"a=", "=b", 1}, {"sub(1,2,", ")", 1}} {
			holdAround(t, syntax.Expr, []around{{x.ahead + place.ahead, place.behind + x.behind, x.deep + place.deep}})
		}
	}
}

// P12.3: how deep each part of an item and of a statement is; what stood ahead of it makes it no deeper.
func TestHowDeepPrograms(t *testing.T) {
	holdAround(t, syntax.Parse, []around{
		{"", "", 0}, {"\n;", "", 0}, {"", "{}", 0}, {"a,\n", "", 0}, {"a,", "{}", 0}, {"", ",a{}", 0}, {"{{a}}(b);", "", 0}, {"persist a;", "", 0}, {"function f(a){a}", "", 0}, {"(", "){}", 1},
		{"{", "}", 2}, {"BEGIN{", "}", 2}, {"END{", "}", 2}, {"function f(a)\n{", "}", 2}, {"a{", "}", 2}, {"a,b{", "}", 2}, {"{{", "}}", 3}, {"{{{", "}}}", 4}, {"{;{{}};(a);!b;", "}", 2}, {"{if(a)((b));", "}", 2}, {"{a}{", "}", 2}, {"!a{", "}", 2}, {"{(", ")}", 3},
		{"{if(", ");}", 2}, {"{if(a)", "}", 3}, {"{if(a){", "}}", 4}, {"{if(a);else ", "}", 3}, {"{if(a){b}else{", "}}", 4}, {"{if(a)if(b)", "}", 4}, {"{if(a)if(", ")b}", 3}, {"{if(a);else if(", ");}", 3}, {"{while(", ");}", 2}, {"{while(a)", "}", 3}, {"{do ", "\nwhile(a)}", 3}, {"{do;while(", ")}", 2}, {"{do{", "}while(a)}", 4}, {"{do;while(a);", "}", 2},
		{"{for(", ";;);}", 3}, {"{for(;", ";);}", 2}, {"{for(;;", ");}", 3}, {"{for(;;)", "}", 3}, {"{for(a;b;c)", "}", 3}, {"{for(a in b)", "}", 3}, {"{for((a);", ";);}", 2}, {"{for(a;b;", ");}", 3}, {"{for(print ", ";;);}", 3}, {"{for(print(", ",a);;);}", 3}, {"{for(print>", ";;);}", 3}, {"{for(delete a[", "];;);}", 3}, {"{for(;;exit ", ");}", 3}, {"{for(;;printf a>", ");}", 3}, {"{for(;;)for(", ";;);}", 4},
		{"{print ", "}", 2}, {"{print a,", "}", 2}, {"{print(", ")}", 3}, {"{print(", ",a)}", 2}, {"{print(a,", ")>b}", 2}, {"{print(", ",a)in b}", 3}, {"{print(a,b)in c,", "}", 2}, {"{print((", "),a)}", 3}, {"{print>", "}", 2}, {"{print a>>", "}", 2}, {"{print(a,b)>c*", "}", 2}, {"{print(a)>(", ")}", 3}, {"{print !a>", "}", 2}, {"{printf ", "}", 2}, {"{printf(a,", ")}", 2}, {"{printf a>", "}", 2}, {"{printf a>$(", ")}", 4},
		{"{delete a[", "]}", 2}, {"{delete a[b,", "]}", 2}, {"{exit ", "}", 2}, {"{return ", "}", 2}, {"{a=", "}", 3}, {"{a?", ":b}", 3}, {"{f(", ")}", 3},
	})
}

// chain is a text in which a piece stands n times: with most of them it is read; with more of them it is too deep at a place.
type chain struct {
	ahead, piece, middle, close, behind string
	most, at                            int
}

// of is the text with n pieces.
func (x chain) of(n int) string {
	return x.ahead + strings.Repeat(x.piece, n) + x.middle + strings.Repeat(x.close, n) + x.behind
}

// holdChains holds a reading against rows.
func holdChains(t *testing.T, read reading, rows []chain) {
	t.Helper()
	for _, x := range rows {
		for _, n := range []int{1, x.most - 1, x.most} {
			if _, at, e := read(x.of(n)); at != 0 || e != api.OK {
				t.Errorf("%d of %q: %d, %v", n, x.piece, at, e)
			}
		}
		for _, n := range []int{x.most + 1, x.most + 2, x.most + 3, x.most + 60} {
			node, at, e := read(x.of(n))
			none(t, strconv.Itoa(n)+" of "+x.piece, wrong{x.of(n), x.at, api.ErrLong}, node, at, e)
		}
	}
}

// P12.3: what is as often within itself as may be, and more often.
func TestDeepChains(t *testing.T) {
	holdChains(t, syntax.Expr, []chain{
		{"", "(", "a", ")", "", 200, 201}, {" ", "(", "a", ")", "", 200, 202}, {"a+", "(", "a", ")", "", 200, 203}, {"!", "(", "a", ")", "", 199, 201}, {"", "(", "(a,a)in a", ",a)in a", "", 199, 201},
		{"", "!", "a", "", "", 200, 201}, {"", "- ", "a", "", "", 200, 402}, {"", "+!", "a", "", "", 100, 201}, {"!a*", "!", "a", "", "", 200, 204}, {"", "(!", "a", ")", "", 100, 201}, {"", "-a[", "a", "]", "", 100, 301},
		{"", "a[", "a", "]", "", 200, 402}, {"", "a[", "a", "]", "=1", 200, 402}, {"", "++a[", "a", "]", "", 200, 804}, {"", "$(", "a", ")", "", 100, 202}, {"", "$a[", "a", "]", "=1", 100, 303}, {"", "$++a[", "a", "]", "", 100, 505}, {"", "f(", "a", ")", "", 200, 402}, {"", "f(a,", "a", ")", "", 200, 802}, {"", "length(", "a", ")", "", 200, 1407}, {"", "getline<(", "a", ")", "", 200, 1809},
		{"", "a=", "a", "", "", 200, 402}, {"", "a+=", "a", "", "", 200, 603}, {"", "(a=", "a", ")", "", 100, 301}, {"", "a?a:", "a", "", "", 200, 802}, {"", "a?", "a", ":a", "", 200, 402},
	})
	holdChains(t, syntax.Parse, []chain{
		{"", "{", "", "}", "", 201, 201}, {"BEGIN ", "{", "", "}", "", 201, 207}, {"END\t", "{", "", "}", "", 201, 205}, {"function f()\n", "{\n", "", "}", "", 201, 415}, {"a, b ", "{", "", "}", " c", 201, 206}, {"", "{", ";", "}", "", 200, 201}, {"a;", "{", ";", "};", "", 200, 203},
		{"{", "if(1)", ";", "", "}", 199, 999}, {"{", "if(1);else ", ";", "", "}", 199, 1 + 199*11 + 3}, {"{", "while(1)", ";", "", "}", 199, 1599}, {"{", "for(;;)", ";", "", "}", 199, 1401}, {"{", "for(a in b)", ";", "", "}", 199, 2201}, {"{", "do ", ";", "while(a);", "}", 199, 601}, {"{", "if(1){", "", "}", "}", 100, 601},
		{"", "(", "a", ")", "", 200, 201}, {"a, ", "(", "a", ")", "{}", 200, 204}, {"{if(", "(", "a", ")", ")b}", 198, 203}, {"{print ", "(", "a", ")", "}", 198, 206}, {"{print 1>", "!", "a", "", "}", 198, 208},
	})
}

// P12.3: what is no ITEM, BLOCK, STMT, EXPR or UNARY is never too deep, nor is what stands side by side.
func TestNotTooDeep(t *testing.T) {
	for _, s := range []string{strings.Repeat("$", 2000) + "a", strings.Repeat("$", 2000) + "a=1", strings.Repeat("!", 200) + strings.Repeat("$", 1400) + "++a", strings.Repeat("$++", 900) + "a", strings.Repeat("$", 1400) + "getline $a", "getline " + strings.Repeat("$", 1400) + "f()", strings.Repeat("getline<", 900) + "a", strings.Repeat("getline a<", 700) + "a", strings.Repeat("a ", 2000), strings.Repeat("a~", 1400) + "a", strings.Repeat("a&&", 1400) + "a", "a" + strings.Repeat(" in a", 1400), "f(" + strings.Repeat("a,", 1400) + "a)", strings.Repeat("(a)", 900), strings.Repeat("!a*", 900) + "a"} {
		if _, at, e := syntax.Expr(s); at != 0 || e != api.OK {
			t.Errorf("%.20s..: %d, %v", s, at, e)
		}
	}
	dollars := strings.Repeat("$", 300)
	refusedExpr(t, []wrong{{dollars + "(a)", 301, api.ErrLong}, {dollars + "a[a]", 302, api.ErrLong}, {dollars + "++a[a]", 304, api.ErrLong}, {dollars + "f(a)", 302, api.ErrLong}, {dollars + "()", 301, api.ErrForm}, {dollars + "!a", 300, api.ErrForm}, {dollars + "99999999999999", 300, api.ErrOver}, {dollars[:199] + "((a))", 201, api.ErrLong}, {dollars[:199] + "(!a)", 201, api.ErrLong}, {dollars[:200] + "(a)", 201, api.ErrLong}})
	ahead, behind := strings.Repeat("{", 200), strings.Repeat("}", 200) // a STMT within is 200 deep
	for _, s := range []string{"", "next", ";", "{}", "print", "print;", "delete a", "exit", "return", "break;continue", "{}{\n}", "{};print"} {
		if _, at, e := syntax.Parse(ahead + s + behind); at != 0 || e != api.OK {
			t.Errorf("%s within: %d, %v", s, at, e)
		}
	}
	for _, s := range []string{"^a", "{^;}", "{\n^{}}", "print ^a", "print(^a,b)", "print>^a", "printf ^a", "delete a[^a]", "exit ^a", "return ^a", "if(^a);", "while(^a);", "do ^;while(a)", "for(a in b)^;", "for(;;)^;", "for(next;;)^;", "for(;;break)\n^;", "for(^a;;);", "for(;^a;);", "for(;;^a);", "for(print;;delete a)^{}", "for(print>^a;;);", "for(delete a[^a];;);", "next;^a"} {
		at := strings.Index(s, "^")
		refused(t, []wrong{{ahead + s[:at] + s[at+1:] + behind, 200 + at, api.ErrLong}})
	}
}

// P12.3: at one token ErrForm is told first, then ErrLong, then ErrOver; an error further left ahead of all of them.
func TestFirstError(t *testing.T) {
	most := strings.Repeat("(", 201) // an EXPR behind is too deep
	refusedExpr(t, []wrong{
		{most + ")", 201, api.ErrForm}, {most, 201, api.ErrForm}, {most + "\n", 201, api.ErrForm}, {most + "*", 201, api.ErrForm}, {most + "99999999999999", 201, api.ErrLong}, {most + "sync(1)", 201, api.ErrLong}, {most + "(", 201, api.ErrLong}, {most + "!", 201, api.ErrLong}, {most + "getline", 201, api.ErrLong}, {most + "/a/", 201, api.ErrLong}, {most + "\"a\"", 201, api.ErrLong}, {most + "f()", 201, api.ErrLong}, {most + "$", 201, api.ErrLong}, {most + "++", 201, api.ErrLong}, {most + "print", 201, api.ErrForm}, {most + "in", 201, api.ErrForm},
		{strings.Repeat("!", 201) + ")", 201, api.ErrForm}, {strings.Repeat("!", 201) + "99999999999999", 201, api.ErrLong}, {strings.Repeat("!", 200) + "99999999999999", 200, api.ErrOver}, {"sync(1)" + most + "a", 0, api.ErrForm}, {"99999999999999" + most + "a", 0, api.ErrOver}, {"a)" + most + "a", 1, api.ErrForm}, {most[1:] + "99999999999999)" + most, 200, api.ErrOver},
	})
	blocks := strings.Repeat("{", 201) // a STMT behind is too deep
	refused(t, []wrong{
		{blocks + ")", 201, api.ErrForm}, {blocks, 201, api.ErrForm}, {blocks + "else", 201, api.ErrForm}, {blocks + "{", 201, api.ErrLong}, {blocks + ";", 201, api.ErrLong}, {blocks + "\n\n;", 203, api.ErrLong}, {blocks + "print", 201, api.ErrLong}, {blocks + "if", 201, api.ErrLong}, {blocks + "99999999999999", 201, api.ErrLong}, {blocks + "next", 201, api.ErrLong}, {blocks + "in", 201, api.ErrForm}, {blocks + "do", 201, api.ErrLong}, {blocks + "}", 202, api.ErrForm}, {"BEGIN " + most, 6, api.ErrForm},
	})
}

// ways are what a kind may be: E an EXPR, U a UNARY, L an LVALUE, P a PRIMARY, Q what stands behind $, S a STMT, M a SIMPLE. Capital letters within are kinds; each ^ ahead makes a kind, or an EXPR, a UNARY or a STMT of one letter or sign, one deeper. The first way has nothing within.
var ways = map[byte][]string{
	'E': {"a", "U", "U", "U", "a*U", "U~a", "a<U", "a||U", "a in b&&U", "U?^a:^a", "a?^E:^a", "a?^a:^E", "a=^E", "L+=^E", "L=\n^a", "(^E,^a)in a", "(^a,^E)in a in b"},
	'U': {"a", "P", "P", "L++", "--L", "!^U", "- ^U", "+ ^U"},
	'L': {"a", "a[^E]", "a[^a,^E]", "$^Q", "$^Q"},
	'P': {"a", "L", "(^E)", "f(^E)", "f(^a,^E)", "length(^E)", "sprintf(^a,^E,^a)", "getline L", "getline<P", "getline a<P"},
	'Q': {"a", "P", "++L", "--L"},
	'S': {";", "{^S}", "{\n^S^S}", "^E;", "print ^E;", "print ^a,^E\n", "print(^E,^a);", "printf(^a,^E)>>^U;", "print ^E>^U;", "print>^U;", "delete a[^E];", "exit ^E;", "return ^E;", "if(^E)^S", "if(^E)^;else ^S", "while(^E)\n^S", "do ^S while(^E);", "for(^M;^E;^M)^S", "for(^M;;)^S", "for(;;)^S", "for(a in b)^S"},
	'M': {"next", "^E", "print ^E", "print(^a,^E)", "print>^U", "delete a[^E]", "exit ^E"},
}

// nest is a text of kinds within one another, and the first place of it that is too deep; -1, if none is.
type nest struct {
	pick func(n int) int
	s    strings.Builder
	at   int
}

// count notes that what is to be counted, and so deep, begins at the end of the text.
func (w *nest) count(deep int) {
	if deep > api.MaxDepth && w.at < 0 {
		w.at = w.s.Len()
	}
}

// write writes a kind that is so deep, with kinds within, one of them again, until they are deep enough.
func (w *nest) write(kind byte, deep, enough int) {
	if strings.IndexByte("EUS", kind) >= 0 {
		w.count(deep)
	}
	way := ways[kind][0]
	if deep < enough {
		way = ways[kind][1+w.pick(len(ways[kind])-1)]
	}
	isKind := func(r byte) bool { return 'A' <= r && r <= 'Z' }
	var kinds []int // their places in way
	for i := range len(way) {
		if isKind(way[i]) {
			kinds = append(kinds, i)
		}
	}
	again := -1
	if kinds != nil {
		again = kinds[w.pick(len(kinds))]
	}
	deeper := 0
	for i := range len(way) {
		switch {
		case way[i] == '^':
			deeper++
			continue
		case i == again:
			w.write(way[i], deep+deeper, enough)
		case isKind(way[i]):
			w.write(way[i], deep+deeper, 0)
		default:
			if deeper > 0 {
				w.count(deep + deeper)
			}
			w.s.WriteByte(way[i])
		}
		deeper = 0
	}
}

// P12.3: all kinds within all others, as deep as may be, and deeper.
func TestDeepNests(t *testing.T) {
	r := rand.New(rand.NewSource(1239))
	seen := map[bool]int{}
	for range 4000 {
		w := &nest{pick: r.Intn, at: -1}
		enough := 185 + r.Intn(25)
		read := syntax.Parse
		switch r.Intn(4) {
		case 0:
			read = syntax.Expr
			w.write('E', 0, enough)
		case 1:
			w.write('E', 0, enough)
			w.s.WriteString("{}")
		default:
			w.s.WriteString([]string{"{", "BEGIN{", "a,b{", "function f(a){"}[r.Intn(4)])
			w.write('S', 1, enough)
			w.s.WriteString("}")
		}
		s := w.s.String()
		if _, _, e := lex.Words(s); e != api.OK {
			continue
		}
		seen[w.at < 0]++
		if n, at, e := read(s); w.at >= 0 {
			none(t, "reading", wrong{s, w.at, api.ErrLong}, n, at, e)
		} else if at != 0 || e != api.OK {
			t.Errorf("%s: %d, %v", s, at, e)
		}
	}
	if seen[true] < 500 || seen[false] < 500 {
		t.Error(seen)
	}
}
