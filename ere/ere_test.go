package ere_test

import (
	"math"
	"math/big"
	"slices"
	"strings"
	"testing"

	"auklet/api"
	"auklet/class"
	"auklet/ere"
)

// empty, begin, end and dot are the trees of "", ^, $ and a point.
var (
	empty = api.Re{}
	begin = api.Re{K: api.ReBegin}
	end   = api.Re{K: api.ReEnd}
	dot   = api.Re{K: api.ReSet, Set: api.Set{math.MaxUint64, math.MaxUint64, math.MaxUint64, math.MaxUint64}}
)

// of is the tree of one of the bytes of s.
func of(s string) api.Re {
	r := api.Re{K: api.ReSet}
	for i := 0; i < len(s); i++ {
		r.Set[s[i]>>6] |= 1 << (s[i] & 63)
	}
	return r
}

func cat(l ...api.Re) api.Re { return api.Re{K: api.ReCat, L: slices.Clone(l)} }
func alt(l ...api.Re) api.Re { return api.Re{K: api.ReAlt, L: slices.Clone(l)} }
func rep(least, most int, r api.Re) api.Re {
	return api.Re{K: api.ReRep, Min: least, Max: most, L: []api.Re{r}}
}
func star(r api.Re) api.Re          { return rep(0, -1, r) }
func times(n int, s string) string  { return strings.Repeat(s, n) }
func within(n int, s string) string { return times(n, "(") + s + times(n, ")") }
func stars(n int, r api.Re) api.Re  { return nested(n, r, star) }
func nested(n int, r api.Re, f func(api.Re) api.Re) api.Re {
	for range n {
		r = f(r)
	}
	return r
}

// bytesOf is the tree of the bytes of s, one behind the other: of none, of one, or a ReCat.
func bytesOf(s string) api.Re {
	var l []api.Re
	for i := 0; i < len(s); i++ {
		l = append(l, of(s[i:i+1]))
	}
	switch len(l) {
	case 0:
		return empty
	case 1:
		return l[0]
	}
	return cat(l...)
}

// same tells whether both are the same tree, nil and empty lists alike.
func same(a, b api.Re) bool {
	return a.K == b.K && a.Set == b.Set && a.Min == b.Min && a.Max == b.Max && slices.EqualFunc(a.L, b.L, same)
}

// trees are texts in another form than Show's, and what they are.
func trees() []struct {
	s string
	r api.Re
} {
	a, b, c, d := of("a"), of("b"), of("c"), of("d")
	return []struct {
		s string
		r api.Re
	}{
		// Atoms.
		{"", empty}, {"a", a}, {"é", cat(of("\xc3"), of("\xa9"))}, {"\xff", of("\xff")}, {"\x00", of("\x00")}, {"\n", of("\n")}, {" ", of(" ")}, {"/", of("/")}, {"\"", of("\"")}, {"-", of("-")}, {",", of(",")}, {":", of(":")},
		{"]", of("]")}, {"}", of("}")}, {"]]", cat(of("]"), of("]"))}, {"}}", cat(of("}"), of("}"))}, {"a}", cat(a, of("}"))}, {"a]", cat(a, of("]"))},
		{".", dot}, {"^", begin}, {"$", end}, {"^$", cat(begin, end)}, {"$^", cat(end, begin)}, {"^^", cat(begin, begin)}, {"a^b", cat(a, begin, b)}, {"a$b", cat(a, end, b)}, {"^a$", cat(begin, a, end)}, {"..", cat(dot, dot)},
		// \ and a byte.
		{`\n`, of("\n")}, {`\t`, of("\t")}, {`\\`, of("\\")}, {`\a`, a}, {`\r`, of("r")}, {`\d`, d}, {`\0`, of("0")}, {`\N`, of("N")}, {`\T`, of("T")}, {`\/`, of("/")}, {"\\\n", of("\n")}, {"\\\xff", of("\xff")}, {"\\\x00", of("\x00")},
		{`\.`, of(".")}, {`\^`, of("^")}, {`\$`, of("$")}, {`\(`, of("(")}, {`\)`, of(")")}, {`\[`, of("[")}, {`\]`, of("]")}, {`\{`, of("{")}, {`\}`, of("}")}, {`\*`, of("*")}, {`\+`, of("+")}, {`\?`, of("?")}, {`\|`, of("|")},
		{`\\n`, cat(of("\\"), of("n"))}, {`\\\n`, cat(of("\\"), of("\n"))}, {`\**`, star(of("*"))}, {`\{{2}`, rep(2, 2, of("{"))}, {`a\|b`, cat(a, of("|"), b)}, {`(\))`, of(")")}, {`\((a)\)`, cat(of("("), a, of(")"))}, {`\[a]`, cat(of("["), a, of("]"))}, {`\n*`, star(of("\n"))},
		// Bracket expressions.
		{"[a]", a}, {"[ab]", of("ab")}, {"[a-c]", of("abc")}, {"[]]", of("]")}, {"[]a]b", cat(of("]a"), b)}, {"[a][b]", cat(a, b)}, {"[a]]", cat(a, of("]"))}, {"a[b]c", cat(a, b, c)}, {"[(]", of("(")}, {"([)])", of(")")}, {"[|]", of("|")}, {"[*]", of("*")}, {"[a|b]*", star(of("ab|"))}, {"[{]{2}", rep(2, 2, of("{"))}, {"[\\]]", of("]")}, {"[\\n]", of("\n")}, {"[.]", of(".")}, {"[^^]|a", alt(api.Re{K: api.ReSet, Set: class.Not(of("^").Set)}, a)},
		{"[[:digit:]]+", rep(1, -1, of("0123456789"))}, {"[[:blank:]x]", of("\t x")}, {"[^\x00-\xff]", api.Re{K: api.ReSet}}, {"[\x00-\xff]", dot}, {"x[]-]y", cat(of("x"), of("]-"), of("y"))},
		// Repetitions.
		{"a*", star(a)}, {"a+", rep(1, -1, a)}, {"a?", rep(0, 1, a)}, {"a{3}", rep(3, 3, a)}, {"a{3,}", rep(3, -1, a)}, {"a{3,5}", rep(3, 5, a)}, {"a{0}", rep(0, 0, a)}, {"a{0,}", star(a)}, {"a{0,0}", rep(0, 0, a)}, {"a{0,1}", rep(0, 1, a)}, {"a{1}", rep(1, 1, a)}, {"a{1,}", rep(1, -1, a)}, {"a{1,1}", rep(1, 1, a)},
		{"a{50}", rep(50, 50, a)}, {"a{50,}", rep(50, -1, a)}, {"a{50,50}", rep(50, 50, a)}, {"a{0,50}", rep(0, 50, a)}, {"a{00}", rep(0, 0, a)}, {"a{05}", rep(5, 5, a)}, {"a{05,}", rep(5, -1, a)}, {"a{05,07}", rep(5, 7, a)}, {"a{9,10}", rep(9, 10, a)}, {"a{10,10}", rep(10, 10, a)}, {"a{49,50}", rep(49, 50, a)},
		{"a**", star(star(a))}, {"a*+?", rep(0, 1, rep(1, -1, star(a)))}, {"a{2}{3}", rep(3, 3, rep(2, 2, a))}, {"a{2,}*{0}", rep(0, 0, star(rep(2, -1, a)))}, {"(a*)*", star(star(a))}, {"a{1}}", cat(rep(1, 1, a), of("}"))}, {"a{1}2}", cat(rep(1, 1, a), of("2"), of("}"))},
		{"ab*", cat(a, star(b))}, {"a*b", cat(star(a), b)}, {"a*b*", cat(star(a), star(b))}, {"(ab)*", star(cat(a, b))}, {"(a|b)*", star(alt(a, b))}, {"a|b*", alt(a, star(b))}, {"^*", star(begin)}, {"$+", rep(1, -1, end)}, {".*", star(dot)}, {"^*a", cat(star(begin), a)}, {"()*", star(empty)}, {"(){2,3}", rep(2, 3, empty)}, {"()**", star(star(empty))}, {"(()){2}", rep(2, 2, empty)}, {"]*", star(of("]"))}, {"}*", star(of("}"))}, {"}{2}", rep(2, 2, of("}"))},
		// Branches.
		{"a|b", alt(a, b)}, {"a|b|c", alt(a, b, c)}, {"ab|cd", alt(cat(a, b), cat(c, d))}, {"|", alt(empty, empty)}, {"||", alt(empty, empty, empty)}, {"a|", alt(a, empty)}, {"|a", alt(empty, a)}, {"a||b", alt(a, empty, b)}, {"|a|", alt(empty, a, empty)}, {"^a|b$", alt(cat(begin, a), cat(b, end))}, {"a|a", alt(a, a)},
		// ( ).
		{"()", empty}, {"(())", empty}, {"(a)", a}, {"((a))", a}, {"(ab)", cat(a, b)}, {"(|)", alt(empty, empty)}, {"(a)b", cat(a, b)}, {"a(b)", cat(a, b)}, {"(a)(b)", cat(a, b)}, {"(a|b)c", cat(alt(a, b), c)}, {"a(b|c)", cat(a, alt(b, c))}, {"(a|b)(c|d)", cat(alt(a, b), alt(c, d))}, {"(a|)b", cat(alt(a, empty), b)},
		// A ReCat in a ReCat, a ReAlt in a ReAlt.
		{"(ab)c", cat(a, b, c)}, {"a(bc)", cat(a, b, c)}, {"a(bc)d", cat(a, b, c, d)}, {"(ab)(cd)", cat(a, b, c, d)}, {"((ab)c)d", cat(a, b, c, d)}, {"a(b(cd))", cat(a, b, c, d)}, {"(a|b)|c", alt(a, b, c)}, {"a|(b|c)", alt(a, b, c)}, {"a|(b|c)|d", alt(a, b, c, d)}, {"((a|b)|c)|d", alt(a, b, c, d)}, {"(a|b)|(c|d)", alt(a, b, c, d)}, {"((a|b))|c", alt(a, b, c)}, {"((a|b))", alt(a, b)}, {"((ab))", cat(a, b)}, {"(|)|a", alt(empty, empty, a)}, {"a|()", alt(a, empty)}, {"a|(|)", alt(a, empty, empty)}, {"a|(bc)", alt(a, cat(b, c))}, {"(ab|c)d", cat(alt(cat(a, b), c), d)}, {"(ab)*c", cat(star(cat(a, b)), c)}, {"a|(b|c)*", alt(a, star(alt(b, c)))}, {"a(b|(cd))", cat(a, alt(b, cat(c, d)))}, {"a|(b(c|d))", alt(a, cat(b, alt(c, d)))},
		// A ReEmpty in a ReCat, and what is left then.
		{"()a", a}, {"a()", a}, {"()a()", a}, {"()()", empty}, {"(()())()", empty}, {"a()b", cat(a, b)}, {"()(ab)", cat(a, b)}, {"(ab)()c", cat(a, b, c)}, {"(()(ab))c", cat(a, b, c)}, {"()(a|b)", alt(a, b)}, {"()(a|b)|c", alt(a, b, c)}, {"c|(a|b)()", alt(c, a, b)}, {"(()a)*", star(a)}, {"(()()){2}", rep(2, 2, empty)}, {"()|()", alt(empty, empty)}, {"()()|a", alt(empty, a)}, {"()*a", cat(star(empty), a)}, {"(()|a)b", cat(alt(empty, a), b)}, {"()^", begin}, {"(|)a", cat(alt(empty, empty), a)}, {"(a{0})b", cat(rep(0, 0, a), b)},
	}
}

// P5.1: what is read, and as which tree.
func TestParseTable(t *testing.T) {
	for _, x := range trees() {
		r, at, e := ere.Parse(x.s)
		if !same(r, x.r) || at != 0 || e != api.OK {
			t.Errorf("Parse(%q): %v, %d, %v, not %v", x.s, r, at, e, x.r)
		}
	}
}

// P5.1: each byte, by itself and behind \.
func TestParseEachByte(t *testing.T) {
	for i := range 256 {
		c := string([]byte{byte(i)})
		escaped := c
		switch c {
		case "n":
			escaped = "\n"
		case "t":
			escaped = "\t"
		}
		if r, at, e := ere.Parse("a\\" + c + "b"); !same(r, cat(of("a"), of(escaped), of("b"))) || at != 0 || e != api.OK {
			t.Errorf("Parse of \\ and %q: %v, %d, %v", c, r, at, e)
		}
		if strings.Contains(`.[()*+?{|^$\`, c) {
			continue
		}
		if r, at, e := ere.Parse("x" + c); !same(r, cat(of("x"), of(c))) || at != 0 || e != api.OK {
			t.Errorf("Parse of %q: %v, %d, %v", c, r, at, e)
		}
		if r, at, e := ere.Parse(c + "*"); !same(r, star(of(c))) || at != 0 || e != api.OK {
			t.Errorf("Parse of %q and *: %v, %d, %v", c, r, at, e)
		}
	}
}

// P5.1, P5.2: all of one and two digits in { }, and of three.
func TestParseTimes(t *testing.T) {
	shown := func(n int) []string {
		digits := string([]byte{byte('0' + n/10), byte('0' + n%10)})
		if n < 10 {
			return []string{digits, digits[1:]}
		}
		return []string{digits}
	}
	check := func(s string, least, most int) {
		t.Helper()
		fits := least <= 50 && (most == -1 || least <= most && most <= 50)
		r, at, e := ere.Parse("xa" + s)
		if fits && (!same(r, cat(of("x"), rep(least, most, of("a")))) || at != 0 || e != api.OK) {
			t.Errorf("Parse of %q: %v, %d, %v", s, r, at, e)
		}
		if !fits && (!same(r, empty) || at != 2 || e != api.ErrRepeat) {
			t.Errorf("Parse of %q: %v, %d, %v, not ErrRepeat at 2", s, r, at, e)
		}
	}
	for m := range 100 {
		for _, from := range shown(m) {
			check("{"+from+"}", m, m)
			check("{"+from+",}", m, -1)
			for n := range 100 {
				for _, to := range shown(n) {
					check("{"+from+","+to+"}", m, n)
				}
			}
		}
	}
	for n := range 200 {
		three := string([]byte{byte('0' + n/100), byte('0' + n/10%10), byte('0' + n%10)})
		check("{"+three+"}", 99, 99)
		check("{0,"+three+"}", 99, 99)
		check("{"+three+",}", 99, 99)
	}
}

// P5.2: the first fault from the left, and its place.
func TestParseFaults(t *testing.T) {
	for _, x := range []struct {
		s  string
		at int
		e  api.Errno
	}{
		// A repetition where an atom must come.
		{"*", 0, api.ErrRepeat}, {"+", 0, api.ErrRepeat}, {"?", 0, api.ErrRepeat}, {"{", 0, api.ErrRepeat}, {"{1}", 0, api.ErrRepeat}, {"*a", 0, api.ErrRepeat}, {"a|*", 2, api.ErrRepeat}, {"a|+b", 2, api.ErrRepeat}, {"a|{2}", 2, api.ErrRepeat}, {"|?", 1, api.ErrRepeat}, {"(*)", 1, api.ErrRepeat}, {"(*", 1, api.ErrRepeat}, {"a(+b)", 2, api.ErrRepeat}, {"(a|?)", 3, api.ErrRepeat}, {"(()|{1})", 4, api.ErrRepeat}, {"((*))", 2, api.ErrRepeat},
		// A ) that closes none.
		{")", 0, api.ErrForm}, {"a)", 1, api.ErrForm}, {"())", 2, api.ErrForm}, {"(a))", 3, api.ErrForm}, {"a|)", 2, api.ErrForm}, {"a*)", 2, api.ErrForm}, {")(", 0, api.ErrForm}, {"(a))(", 3, api.ErrForm}, {"\\()", 2, api.ErrForm}, {"[(])", 3, api.ErrForm}, {")*", 0, api.ErrForm}, {"a))", 1, api.ErrForm},
		// A bracket expression that can't be read.
		{"[", 0, api.ErrShort}, {"a[", 1, api.ErrShort}, {"a[b", 1, api.ErrShort}, {"[]", 0, api.ErrShort}, {"[^]", 0, api.ErrShort}, {"x[\\]", 1, api.ErrShort}, {"x[\\", 1, api.ErrShort}, {"xy[[:alpha:]", 2, api.ErrShort}, {"([)", 1, api.ErrShort}, {"[b-a]", 0, api.ErrForm}, {"xy[b-a]", 2, api.ErrForm}, {"(a|[z-a])", 3, api.ErrForm}, {"[[:x:]]", 0, api.ErrClass}, {"a*[[:nope:]]", 2, api.ErrClass}, {"[a][[:nope:]]", 3, api.ErrClass}, {"[[:alpha]", 0, api.ErrShort},
		// The end, where something must come.
		{"(", 1, api.ErrShort}, {"(a", 2, api.ErrShort}, {"((a)", 4, api.ErrShort}, {"(a|", 3, api.ErrShort}, {"(()", 3, api.ErrShort}, {"a(b*", 4, api.ErrShort}, {"(a\\)", 4, api.ErrShort}, {"([)]", 4, api.ErrShort}, {"\\", 1, api.ErrShort}, {"a\\", 2, api.ErrShort}, {"\\\\\\", 3, api.ErrShort}, {"(\\", 2, api.ErrShort}, {"a|b\\", 4, api.ErrShort}, {"((", 2, api.ErrShort},
		// A { that begins none of the three forms.
		{"a{", 1, api.ErrRepeat}, {"a{}", 1, api.ErrRepeat}, {"a{1", 1, api.ErrRepeat}, {"a{1,", 1, api.ErrRepeat}, {"a{1,2", 1, api.ErrRepeat}, {"a{,}", 1, api.ErrRepeat}, {"a{,2}", 1, api.ErrRepeat}, {"a{,", 1, api.ErrRepeat}, {"a{x}", 1, api.ErrRepeat}, {"a{1x}", 1, api.ErrRepeat}, {"a{1,x}", 1, api.ErrRepeat}, {"a{1,2x}", 1, api.ErrRepeat}, {"a{1,2,}", 1, api.ErrRepeat}, {"a{1,2,3}", 1, api.ErrRepeat}, {"a{1,,}", 1, api.ErrRepeat}, {"a{ 1}", 1, api.ErrRepeat}, {"a{1 }", 1, api.ErrRepeat}, {"a{1, 2}", 1, api.ErrRepeat}, {"a{-1}", 1, api.ErrRepeat}, {"a{+1}", 1, api.ErrRepeat}, {"a{1,-1}", 1, api.ErrRepeat}, {"a{001}", 1, api.ErrRepeat}, {"a{1,002}", 1, api.ErrRepeat}, {"a{123}", 1, api.ErrRepeat}, {"a{1.}", 1, api.ErrRepeat}, {"a{:}", 1, api.ErrRepeat}, {"a{/}", 1, api.ErrRepeat}, {"a{1,:}", 1, api.ErrRepeat}, {"a{0/}", 1, api.ErrRepeat}, {"a{\xb2}", 1, api.ErrRepeat}, {"a{1)}", 1, api.ErrRepeat}, {"(a{)", 2, api.ErrRepeat}, {"a{(}", 1, api.ErrRepeat}, {"a{{1}}", 1, api.ErrRepeat}, {"a{1{2}", 1, api.ErrRepeat}, {"ab{\\}", 2, api.ErrRepeat}, {"a*{", 2, api.ErrRepeat}, {"a{2}{", 4, api.ErrRepeat}, {"a{99999999999999999999}", 1, api.ErrRepeat},
		// Too often, or the wrong way round.
		{"a{51}", 1, api.ErrRepeat}, {"a{99}", 1, api.ErrRepeat}, {"a{51,}", 1, api.ErrRepeat}, {"a{0,51}", 1, api.ErrRepeat}, {"a{51,51}", 1, api.ErrRepeat}, {"a{2,1}", 1, api.ErrRepeat}, {"a{1,0}", 1, api.ErrRepeat}, {"a{10,9}", 1, api.ErrRepeat}, {"a{50,49}", 1, api.ErrRepeat}, {"a{60,5}", 1, api.ErrRepeat}, {"ab*{3,2}c", 3, api.ErrRepeat}, {"(a){02,01}", 3, api.ErrRepeat},
		// What stands farther left is told.
		{"(*)", 1, api.ErrRepeat}, {"(a{51}", 2, api.ErrRepeat}, {"a{51})", 1, api.ErrRepeat}, {"a)*", 1, api.ErrForm}, {"a)[", 1, api.ErrForm}, {"[b-a)", 0, api.ErrForm}, {"([b", 1, api.ErrShort}, {"([[:x:]", 1, api.ErrClass}, {"*[", 0, api.ErrRepeat}, {"a{[", 1, api.ErrRepeat}, {")\\", 0, api.ErrForm}, {"(\\*", 3, api.ErrShort}, {"a|*|)", 2, api.ErrRepeat}, {"(a)|(b|)c)", 9, api.ErrForm},
	} {
		for _, ahead := range []string{"", "xy|", "b[*)({]|", "(c|d{3,4})\\)|", "||"} {
			n := len(ahead)
			r, at, e := ere.Parse(ahead + x.s)
			if !same(r, empty) || at != x.at+n || e != x.e {
				t.Errorf("Parse(%q): %v, %d, %v, not %d, %v", ahead+x.s, r, at, e, x.at+n, x.e)
			}
		}
	}
}

// P5.2: 400 bytes may be, one more may not, whatever else is wrong.
func TestParseLong(t *testing.T) {
	if r, at, e := ere.Parse(times(400, "a")); !same(r, bytesOf(times(400, "a"))) || at != 0 || e != api.OK {
		t.Errorf("400 bytes: %v, %d, %v", r, at, e)
	}
	if r, at, e := ere.Parse("a" + times(399, "*")); !same(r, stars(399, of("a"))) || at != 0 || e != api.OK {
		t.Errorf("399 stars: %v, %d, %v", r.K, at, e)
	}
	if r, at, e := ere.Parse(times(399, "|")); len(r.L) != 400 || at != 0 || e != api.OK {
		t.Errorf("400 branches: %v, %d, %v", r, at, e)
	}
	if r, at, e := ere.Parse("[" + times(398, "a") + "]"); !same(r, of("a")) || at != 0 || e != api.OK {
		t.Errorf("a bracket expression of 400 bytes: %v, %d, %v", r, at, e)
	}
	if r, at, e := ere.Parse("(" + times(399, "a")); !same(r, empty) || at != 400 || e != api.ErrShort {
		t.Errorf("400 bytes that end too early: %v, %d, %v", r, at, e)
	}
	for _, s := range []string{times(401, "a"), times(401, ")"), times(401, "("), times(401, "*"), times(401, "["), times(401, "\\"), times(200, "()") + "a", "[" + times(399, "a") + "]", times(100000, "a|"), times(134, "\xe2\x82\xac")} {
		if r, at, e := ere.Parse(s); !same(r, empty) || at != 0 || e != api.ErrLong {
			t.Errorf("Parse of %d bytes: %v, %d, %v", len(s), r, at, e)
		}
	}
}

// P5.2: a ( may lie in 19 others, not in 20.
func TestParseNest(t *testing.T) {
	a := of("a")
	for _, x := range []struct {
		s string
		r api.Re
	}{
		{within(20, "a"), a}, {within(20, ""), empty}, {within(19, "(a)(a)"), cat(a, a)}, {within(20, "a*|a"), alt(star(a), a)}, {times(50, "(a)"), bytesOf(times(50, "a"))}, {within(20, "a") + within(20, "a"), cat(a, a)}, {within(20, "a") + "|" + within(20, "a"), alt(a, a)}, {times(20, "(") + "a" + times(20, ")*"), stars(20, a)}, {within(20, "\\(\\(["+"(]"), cat(of("("), of("("), of("("))},
	} {
		if r, at, e := ere.Parse(x.s); !same(r, x.r) || at != 0 || e != api.OK {
			t.Errorf("Parse(%q): %v, %d, %v", x.s, r, at, e)
		}
	}
	for _, x := range []struct {
		s  string
		at int
		e  api.Errno
	}{
		{within(21, "a"), 20, api.ErrLong}, {times(21, "("), 20, api.ErrLong}, {times(400, "("), 20, api.ErrLong}, {"ab" + within(21, "a"), 22, api.ErrLong}, {within(20, "a") + within(21, "a"), 61, api.ErrLong}, {times(20, "(a|") + "(", 60, api.ErrLong}, {within(19, "(a)(b)(()"), 26, api.ErrLong}, {within(20, "(") + ")", 20, api.ErrLong},
		{times(20, "("), 20, api.ErrShort}, {times(20, "(") + "*" + "(", 20, api.ErrRepeat}, {times(20, "(") + "[" + "(", 20, api.ErrShort}, {within(20, "a") + ")", 41, api.ErrForm}, {times(20, "(") + times(19, ")"), 39, api.ErrShort}, {"*" + times(21, "("), 0, api.ErrRepeat}, {times(21, "(") + "*", 20, api.ErrLong},
	} {
		if r, at, e := ere.Parse(x.s); !same(r, empty) || at != x.at || e != x.e {
			t.Errorf("Parse(%q): %v, %d, %v, not %d, %v", x.s, r, at, e, x.at, x.e)
		}
	}
}

// lists are the lists of r, and of all its parts.
func lists(r api.Re) [][]api.Re {
	l := [][]api.Re{r.L}
	for _, part := range r.L {
		l = append(l, lists(part)...)
	}
	return l
}

// P5.2: no list of an answer is shared with another one, spare room included.
func TestParseMemory(t *testing.T) {
	for _, s := range []string{"(ab)(cd)|(a|b)|(c|d)", "((a|b)c)*|(a|b)c|((ab)*(cd){2}(ef))", "(a|b|c|d|e)", "((((abcde))))", "((a|b)*(a|b)*(a|b)*)"} {
		one, _, _ := ere.Parse(s)
		two, _, _ := ere.Parse(s)
		owner := map[*api.Re]int{}
		for i, l := range append(lists(one), lists(two)...) {
			l = l[:cap(l)]
			for j := range l {
				if k, ok := owner[&l[j]]; ok {
					t.Errorf("Parse(%q): the lists %d and %d share memory", s, k, i)
				}
				owner[&l[j]] = i
			}
		}
	}
}

// shown are trees and their texts in Show's form.
func shown() []struct {
	r api.Re
	s string
} {
	a, b, c := of("a"), of("b"), of("c")
	all := class.Show(dot.Set)
	return []struct {
		r api.Re
		s string
	}{
		{empty, ""}, {a, "[a]"}, {of("ab"), "[ab]"}, {of("]"), `[\]]`}, {of("*"), "[*]"}, {of("\n"), "[\n]"}, {of("\xff"), "[\xff]"}, {dot, "."}, {begin, "^"}, {end, "$"}, {api.Re{K: api.ReSet}, "[^" + all[1:]},
		{cat(a, b), "[a][b]"}, {cat(begin, a, end), "^[a]$"}, {cat(dot, dot), ".."}, {alt(a, b), "[a]|[b]"}, {alt(a, b, c), "[a]|[b]|[c]"}, {alt(a, empty), "[a]|"}, {alt(empty, a), "|[a]"}, {alt(empty, empty), "|"}, {alt(empty, empty, empty), "||"}, {alt(a, empty, b), "[a]||[b]"}, {alt(begin, end), "^|$"},
		{star(a), "[a]*"}, {rep(1, -1, a), "[a]+"}, {rep(0, 1, a), "[a]?"}, {rep(0, 0, a), "[a]{0}"}, {rep(1, 1, a), "[a]{1}"}, {rep(3, 3, a), "[a]{3}"}, {rep(50, 50, a), "[a]{50}"}, {rep(2, -1, a), "[a]{2,}"}, {rep(50, -1, a), "[a]{50,}"}, {rep(0, 2, a), "[a]{0,2}"}, {rep(1, 2, a), "[a]{1,2}"}, {rep(0, 50, a), "[a]{0,50}"}, {rep(9, 10, a), "[a]{9,10}"},
		{star(star(a)), "[a]**"}, {rep(0, 1, rep(1, -1, star(a))), "[a]*+?"}, {rep(3, 4, rep(2, 2, a)), "[a]{2}{3,4}"}, {star(dot), ".*"}, {star(begin), "^*"}, {rep(1, -1, end), "$+"},
		{star(empty), "()*"}, {star(star(empty)), "()**"}, {rep(2, 3, empty), "(){2,3}"}, {star(cat(a, b)), "([a][b])*"}, {star(alt(a, b)), "([a]|[b])*"}, {star(alt(empty, empty)), "(|)*"}, {rep(2, 2, alt(a, empty)), "([a]|){2}"},
		{cat(a, alt(b, c)), "[a]([b]|[c])"}, {cat(alt(a, b), alt(b, c)), "([a]|[b])([b]|[c])"}, {cat(alt(empty, empty), a), "(|)[a]"}, {cat(star(a), b), "[a]*[b]"}, {cat(a, star(b)), "[a][b]*"}, {cat(star(cat(a, b)), c), "([a][b])*[c]"}, {cat(star(empty), a), "()*[a]"}, {alt(cat(a, b), c), "[a][b]|[c]"}, {alt(star(a), b), "[a]*|[b]"}, {alt(star(alt(a, b)), c), "([a]|[b])*|[c]"}, {alt(cat(a, alt(b, c)), c), "[a]([b]|[c])|[c]"}, {alt(star(empty), empty), "()*|"},
		{star(cat(alt(a, star(cat(b, c))), end)), "(([a]|([b][c])*)$)*"},
	}
}

// P5.3: what Show writes; each of these trees can be.
func TestShowTable(t *testing.T) {
	for _, x := range shown() {
		if s := ere.Show(x.r); s != x.s {
			t.Errorf("Show(%v): %q, not %q", x.r, s, x.s)
		}
		if !ere.Can(x.r) {
			t.Errorf("Can(%v), which is %q", x.r, x.s)
		}
	}
	for _, x := range trees() {
		if !ere.Can(x.r) {
			t.Errorf("Can of what %q is", x.s)
		}
	}
}

// wrong are trees that can't be, each by itself.
func wrong() []api.Re {
	a, b := of("a"), of("b")
	l := []api.Re{
		{K: -1}, {K: 7}, {K: 100}, {K: math.MaxInt}, {K: math.MinInt}, {K: 7, L: []api.Re{a, b}},
		{K: api.ReCat}, {K: api.ReAlt}, {K: api.ReRep}, {K: api.ReRep, Max: -1}, {K: api.ReCat, L: []api.Re{}}, cat(a), alt(a), alt(empty),
		cat(empty), cat(a, empty), cat(empty, a), cat(empty, empty), cat(a, b, empty), cat(cat(a, b), a), cat(a, cat(a, b)), cat(a, b, cat(a, b)), alt(alt(a, b), a), alt(a, alt(a, b)), alt(a, b, alt(empty, empty)),
		{K: api.ReRep, Max: -1, L: []api.Re{a, b}}, {K: api.ReRep, Max: 1, L: []api.Re{a, a}},
		rep(-1, -1, a), rep(-1, 0, a), rep(-1, 5, a), rep(0, -2, a), rep(2, 1, a), rep(1, 0, a), rep(50, 49, a), rep(51, -1, a), rep(51, 51, a), rep(0, 51, a), rep(50, 51, a), rep(0, 100, a), rep(5, -2, a), rep(0, math.MinInt, a), rep(0, math.MaxInt, a), rep(math.MinInt, -1, a), rep(math.MaxInt, -1, a), rep(math.MinInt, math.MaxInt, a), rep(math.MaxInt, math.MaxInt, a),
	}
	for _, r := range []api.Re{empty, a, dot, begin, end} {
		for _, x := range []api.Re{{Min: 1}, {Max: 1}, {Max: -1}, {Min: 1, Max: 1}, {L: []api.Re{a}}, {L: []api.Re{a, b}}} {
			x.K, x.Set = r.K, r.Set
			l = append(l, x)
		}
	}
	for _, r := range []api.Re{empty, begin, end, cat(a, b), alt(a, b), star(a)} {
		for i := range r.Set {
			r.Set = api.Set{}
			r.Set[i] = 1 << 63
			l = append(l, r)
		}
	}
	for _, r := range []api.Re{cat(a, b), alt(a, b)} {
		for _, x := range [][2]int{{1, 0}, {0, 1}, {0, -1}, {-1, 0}, {1, 1}} {
			r.Min, r.Max = x[0], x[1]
			l = append(l, r)
		}
	}
	return l
}

// P5.3, P5.4: what can't be is told by Can, has no text, and no least; also as a part of others.
func TestWrong(t *testing.T) {
	a := of("a")
	for _, r := range wrong() {
		for i, x := range []api.Re{r, star(r), rep(2, 2, star(r)), cat(a, star(r)), cat(r, a), cat(a, r), cat(a, a, r), alt(a, r), alt(r, a), alt(a, cat(a, star(r))), star(cat(a, alt(a, star(r)), a))} {
			if ere.Can(x) || ere.Show(x) != "" || ere.Least(x) != 0 {
				t.Errorf("%v, in form %d: %v, %q, %d", r, i, ere.Can(x), ere.Show(x), ere.Least(x))
			}
		}
	}
}

// P5.3: lists without anything are as none.
func TestCanEmptyLists(t *testing.T) {
	for _, r := range []api.Re{empty, of("a"), begin, end} {
		r.L = make([]api.Re, 0, 5)
		if !ere.Can(r) || !ere.Can(star(r)) || !ere.Can(alt(r, r)) {
			t.Errorf("Can(%v) with an empty list", r)
		}
	}
}

// P5.3: a part lies in 100 others, not in more.
func TestCanDeep(t *testing.T) {
	a := of("a")
	group := func(r api.Re) api.Re { return cat(alt(r, a), a) } // two levels
	for _, x := range []struct {
		r    api.Re
		deep int
	}{
		{stars(99, a), 99}, {stars(100, a), 100}, {stars(101, a), 101}, {stars(399, a), 399}, {stars(3000, a), 3000}, {stars(100, empty), 100}, {stars(101, empty), 101}, {stars(99, alt(a, a)), 100}, {stars(100, alt(a, a)), 101}, {stars(100, cat(a, a)), 101},
		{nested(50, a, group), 100}, {nested(51, a, group), 102}, {star(nested(50, a, group)), 101}, {cat(a, stars(99, a)), 100}, {cat(a, stars(100, a)), 101}, {alt(stars(100, a), a), 101}, {alt(a, a, stars(99, a)), 100},
	} {
		can := x.deep <= 100
		if ere.Can(x.r) != can || (ere.Show(x.r) != "") != can {
			t.Errorf("a tree that is %d deep: %v, %q", x.deep, ere.Can(x.r), ere.Show(x.r))
		}
		if !can && ere.Least(x.r) != 0 {
			t.Errorf("a tree that is %d deep: at least %d", x.deep, ere.Least(x.r))
		}
	}
	round := star(a)
	round.L[0] = round
	if ere.Can(round) || ere.Show(round) != "" || ere.Least(round) != 0 {
		t.Error("a tree that is its own part")
	}
	if ere.Show(stars(100, a)) != "[a]"+times(100, "*") {
		t.Error("100 stars")
	}
}

// P5.3, P5.4: trees that are handed in stay as they are.
func TestTreesStay(t *testing.T) {
	for _, x := range append(shown(), shown()...) {
		spare := make([]api.Re, len(x.r.L), len(x.r.L)+2)
		copy(spare, x.r.L)
		spare[:cap(spare)][len(spare)] = of("z")
		r := x.r
		r.L = spare
		ere.Can(r)
		ere.Show(r)
		ere.Least(r)
		if !same(r, x.r) || !same(spare[:cap(spare)][len(spare)], of("z")) {
			t.Errorf("changed: %v", x.r)
		}
	}
}

// P5.4: Plain puts \ ahead of what would mean something else, and reads as just that text.
func TestPlain(t *testing.T) {
	for s, want := range map[string]string{
		"": "", "a": "a", "abc": "abc", ".": `\.`, "a.b": `a\.b`, "[]": `\[\]`, "()": `\(\)`, "{}": `\{\}`, "*+?": `\*\+\?`, "|": `\|`, "^$": `\^\$`, `\`: `\\`, `\\`: `\\\\`, `\n`: `\\n`, "\n": "\n", "\t": "\t", "a\n\tb": "a\n\tb", "n": "n", "t": "t", "-": "-", "/": "/", ",": ",", "1{2}": `1\{2\}`, "é": "é", "\xff\x00": "\xff\x00", "\xc3.": "\xc3\\.", "[[:alpha:]]": `\[\[:alpha:\]\]`, `"~&#`: `"~&#`,
	} {
		if got := ere.Plain(s); got != want {
			t.Errorf("Plain(%q): %q, not %q", s, got, want)
		}
	}
	for i := range 256 {
		for _, c := range []string{string([]byte{byte(i)}), "ab" + string([]byte{byte(i)}) + "c", string([]byte{byte(i), byte(i)}), "n" + string([]byte{byte(i), 'n'})} {
			p := ere.Plain(c)
			if r, at, e := ere.Parse(p); !same(r, bytesOf(c)) || at != 0 || e != api.OK {
				t.Errorf("Parse of Plain(%q): %v, %d, %v", c, r, at, e)
			}
			if ahead := strings.ContainsRune(`.[](){}*+?|^$\`, rune(i)); strings.Contains(p, "\\") != ahead {
				t.Errorf("Plain(%q): %q", c, p)
			}
		}
	}
	if s := times(100000, ".a"); ere.Plain(s) != times(100000, `\.a`) {
		t.Error("Plain of a long text")
	}
}

// P5.4: how few bytes what a tree is of has.
func TestLeast(t *testing.T) {
	for s, want := range map[string]int{
		"": 0, "a": 1, ".": 1, "[ab]": 1, "[^\x00-\xff]": 1, "^": 0, "$": 0, "ab": 2, "^a$": 1, "abc": 3, "a|bc": 1, "bc|a": 1, "ab|cd": 2, "a|": 0, "|": 0, "a*": 0, "a+": 1, "a?": 0, "a{3}": 3, "a{3,}": 3, "a{3,5}": 3, "a{0}": 0, "(ab){4}": 8, "(ab|c){4}": 4, "(a{3}){4}": 12, "a{3}{4}": 12, "()*": 0, "(){5}": 0, "(abc|de)f{2,}|ghijk": 4, "(a|bc)(de|fgh)": 3, "(abc)+x?": 3, "^+a": 1, "(a|b|)c": 1, "abc|de|fghi": 2, "a{50}{50}{50}": 125000,
	} {
		r, _, e := ere.Parse(s)
		if n := ere.Least(r); n != want || e != api.OK {
			t.Errorf("Least of %q: %d, %v, not %d", s, n, e, want)
		}
	}
}

// round is n as a number of 64 bits that goes round.
func round(n *big.Int) int {
	low := new(big.Int).And(n, new(big.Int).SetUint64(math.MaxUint64))
	return int(int64(low.Uint64()))
}

// P5.4: repetitions in one another go round, part by part.
func TestLeastGoesRound(t *testing.T) {
	for m := 2; m <= 50; m++ {
		r, n := of("a"), big.NewInt(1)
		for range 100 {
			r, n = rep(m, -1, r), n.Mul(n, big.NewInt(int64(m)))
			if got := ere.Least(r); got != round(n) {
				t.Fatalf("Least of %d times again and again: %d, not %d", m, got, round(n))
			}
		}
	}
	many := func(deep int) api.Re {
		return nested(deep, of("a"), func(r api.Re) api.Re { return rep(2, 2, r) })
	}
	for _, x := range []struct {
		r    api.Re
		want int
	}{
		{many(62), 1 << 62}, {many(63), math.MinInt64}, {many(64), 0}, {many(70), 0}, {cat(many(62), many(62)), math.MinInt64}, {cat(many(63), many(63)), 0}, {cat(many(63), many(62), of("a")), math.MinInt64 + 1<<62 + 1}, {alt(of("a"), many(63)), math.MinInt64}, {alt(many(63), empty), math.MinInt64}, {alt(many(62), many(64), of("a")), 0}, {rep(3, 3, many(63)), math.MinInt64}, {rep(0, 5, many(63)), 0},
	} {
		if got := ere.Least(x.r); got != x.want {
			t.Errorf("Least: %d, not %d", got, x.want)
		}
	}
}
