package lex_test

import (
	"slices"
	"strings"
	"testing"

	"auklet/api"
	"auklet/lex"
	"auklet/samples"
)

// words are the words of the language, owns its functions.
const (
	words = "BEGIN END function if else while for do break continue next exit return delete in getline print printf persist"
	owns  = "length substr index split sub gsub match sprintf tolower toupper int sync"
)

// signs are the signs of the language.
const signs = "++ -- += -= *= /= %= == != <= >= >> !~ && || { } ( ) [ ] ; , + - * / % < > ! ~ ? : = $"

// k is a token without its place, of a kind.
type k struct {
	k int
	s string
}

// The kinds, as short functions.
func num(s string) k   { return k{api.TokNum, s} }
func str(s string) k   { return k{api.TokStr, s} }
func regex(s string) k { return k{api.TokRegex, s} }
func name(s string) k  { return k{api.TokName, s} }
func call(s string) k  { return k{api.TokCall, s} }
func word(s string) k  { return k{api.TokWord, s} }
func own(s string) k   { return k{api.TokOwn, s} }
func sign(s string) k  { return k{api.TokSign, s} }

// line is a line feed.
func line() k { return k{api.TokLine, "\n"} }

// row is a program and its tokens, the end left out.
type row struct {
	s    string
	want []k
}

// hold holds Words against rows: all of these are read.
func hold(t *testing.T, rows []row) {
	t.Helper()
	for _, x := range rows {
		l, at, e := lex.Words(x.s)
		want := append(slices.Clone(x.want), k{})
		got := []k{}
		for _, w := range l {
			got = append(got, k{w.K, w.S})
		}
		if !slices.Equal(got, want) || at != 0 || e != api.OK {
			t.Errorf("Words(%q): %+v, %d, %v, not %v", x.s, l, at, e, want)
		} else if l[len(l)-1].At != len(x.s) {
			t.Errorf("Words(%q): the end at %d", x.s, l[len(l)-1].At)
		}
	}
}

// wrong is a program that can't be read, the place, the error.
type wrong struct {
	s  string
	at int
	e  api.Errno
}

// refused holds Words against rows: all of these are errors.
func refused(t *testing.T, rows []wrong) {
	t.Helper()
	for _, x := range rows {
		if l, at, e := lex.Words(x.s); l != nil || at != x.at || e != x.e {
			t.Errorf("Words(%q): %+v, %d, %v, not %d, %v", x.s, l, at, e, x.at, x.e)
		}
	}
}

// P11.1: the words and the functions of the language are just those, letter by letter, and no names.
func TestWordsOfTheLanguage(t *testing.T) {
	for _, s := range strings.Fields(words) {
		if !lex.Word(s) || lex.Own(s) || lex.Name(s) {
			t.Errorf("%q is no word", s)
		}
	}
	for _, s := range strings.Fields(owns) {
		if lex.Word(s) || !lex.Own(s) || lex.Name(s) {
			t.Errorf("%q is no function", s)
		}
	}
	for _, s := range strings.Fields(words + " " + owns) {
		for _, near := range []string{s + "x", s + "1", "_" + s, s[1:], s[:len(s)-1], strings.ToLower(s), strings.ToUpper(s), strings.ToUpper(s[:1]) + s[1:]} {
			known := slices.Contains(strings.Fields(words+" "+owns), near)
			if (lex.Word(near) || lex.Own(near)) != known {
				t.Errorf("%q is taken for one", near)
			}
			if lex.Name(near) == known {
				t.Errorf("%q: a name: %t", near, known)
			}
		}
		for _, near := range []string{s + " ", " " + s, s + "(", s + "\n"} {
			if lex.Word(near) || lex.Own(near) || lex.Name(near) {
				t.Errorf("%q is taken for one", near)
			}
		}
	}
	if lex.Word("") || lex.Own("") {
		t.Error("of nothing")
	}
}

// P11.1: a name is a letter or _, then such and digits, of at most 40 bytes.
func TestName(t *testing.T) {
	for _, s := range []string{"a", "z", "A", "Z", "_", "__", "_1", "a1", "x9y", "Begin", "NR", "ends", "func", "close", "system", "nextfile", "switch", "rand", "exp", "if1", "In", strings.Repeat("a", 40), "_" + strings.Repeat("9", 39)} {
		if !lex.Name(s) {
			t.Errorf("%q is no name", s)
		}
	}
	for _, s := range []string{"", "1", "1a", "a-b", "a b", " a", "a ", "a(", "é", "aé", "\xff", "a\xff", "a.b", "$a", "a\n", "@", "[", "`", "{", "a/", "a:", strings.Repeat("a", 41), "_" + strings.Repeat("9", 40)} {
		if lex.Name(s) {
			t.Errorf("%q is a name", s)
		}
	}
	for c := range 256 {
		letter := 'a' <= c && c <= 'z' || 'A' <= c && c <= 'Z' || c == '_'
		s := string([]byte{byte(c)})
		if lex.Name(s) != letter || lex.Name("a"+s) != (letter || '0' <= c && c <= '9') {
			t.Errorf("%q", s)
		}
	}
}

// P11.2: names, words and functions; a name with ( right behind is a call.
func TestNames(t *testing.T) {
	hold(t, []row{
		{"a", []k{name("a")}}, {"a1_B b", []k{name("a1_B"), name("b")}},
		{"f(", []k{call("f"), sign("(")}}, {"f (", []k{name("f"), sign("(")}}, {"f\\\n(", []k{name("f"), sign("(")}},
		{"f[", []k{name("f"), sign("[")}}, {"f\n(", []k{name("f"), line(), sign("(")}},
		{"if(", []k{word("if"), sign("(")}}, {"if (", []k{word("if"), sign("(")}},
		{"length(", []k{own("length"), sign("(")}}, {"length", []k{own("length")}}, {"length1", []k{name("length1")}},
		{"in2(", []k{call("in2"), sign("(")}}, {"a#(\n(", []k{name("a"), line(), sign("(")}},
		{"function f(a,b)", []k{word("function"), call("f"), sign("("), name("a"), sign(","), name("b"), sign(")")}},
		{strings.Repeat("a", 40), []k{name(strings.Repeat("a", 40))}},
		{strings.Repeat("a", 40) + "(", []k{call(strings.Repeat("a", 40)), sign("(")}},
		{strings.Repeat("a", 40) + "-b", []k{name(strings.Repeat("a", 40)), sign("-"), name("b")}},
	})
	for _, s := range strings.Fields(words) {
		hold(t, []row{{s, []k{word(s)}}, {" " + s + " x", []k{word(s), name("x")}}, {s + "x", []k{name(s + "x")}}})
	}
	for _, s := range strings.Fields(owns) {
		hold(t, []row{{s, []k{own(s)}}, {s + "(", []k{own(s), sign("(")}}, {s + "_(", []k{call(s + "_"), sign("(")}}})
	}
	refused(t, []wrong{
		{strings.Repeat("a", 41), 0, api.ErrLong}, {"a + " + strings.Repeat("_", 41) + "(", 4, api.ErrLong},
		{"x\n" + "if" + strings.Repeat("9", 39), 2, api.ErrLong}, {strings.Repeat("a", 41) + " \x00", 0, api.ErrLong},
		{"é", 0, api.ErrForm}, {"aé", 1, api.ErrForm},
	})
}

// P11.2: digits, a point, digits; a point alone is nothing.
func TestNumbers(t *testing.T) {
	hold(t, []row{
		{"0", []k{num("0")}}, {"007", []k{num("007")}}, {"9", []k{num("9")}}, {"12.50", []k{num("12.50")}},
		{"1.", []k{num("1.")}}, {".5", []k{num(".5")}}, {"1..5", []k{num("1."), num(".5")}}, {"1.5.5", []k{num("1.5"), num(".5")}},
		{".5.5", []k{num(".5"), num(".5")}}, {"1e5", []k{num("1"), name("e5")}}, {"0x1F", []k{num("0"), name("x1F")}},
		{"1a(", []k{num("1"), call("a"), sign("(")}}, {"-1", []k{sign("-"), num("1")}}, {"1+2", []k{num("1"), sign("+"), num("2")}},
		{"1 2", []k{num("1"), num("2")}}, {"$1.", []k{sign("$"), num("1.")}}, {"a.5", []k{name("a"), num(".5")}},
		{strings.Repeat("1", 100), []k{num(strings.Repeat("1", 100))}},
	})
	refused(t, []wrong{
		{".", 0, api.ErrForm}, {"a.", 1, api.ErrForm}, {"1..", 2, api.ErrForm}, {"1. .", 3, api.ErrForm}, {". 5", 0, api.ErrForm},
		{".a", 0, api.ErrForm}, {"..5", 0, api.ErrForm}, {"1.5.", 3, api.ErrForm},
	})
}

// P11.2: a text is what stands between two ", some signs with \ ahead stand for others.
func TestTexts(t *testing.T) {
	hold(t, []row{
		{`""`, []k{str("")}}, {`"a"`, []k{str("a")}}, {`"a" "b"`, []k{str("a"), str("b")}}, {`"a""b"`, []k{str("a"), str("b")}},
		{`"\n\t\\\"\/"`, []k{str("\n\t\\\"/")}}, {`"\a\q\0\ "`, []k{str(`\a\q\0\ `)}}, {`"\N\T"`, []k{str(`\N\T`)}},
		{`"\\"`, []k{str(`\`)}}, {`"\\n"`, []k{str(`\n`)}}, {`"\\\""`, []k{str(`\"`)}}, {`"\\\n"`, []k{str("\\\n")}}, {`"\\\\"`, []k{str(`\\`)}},
		{`"\\" "x"`, []k{str(`\`), str("x")}}, {`"a\"b"`, []k{str(`a"b`)}}, {`"/" "#" "{"`, []k{str("/"), str("#"), str("{")}},
		{"\"\t é\xff\x00\r\"", []k{str("\t é\xff\x00\r")}}, {"\"\\é\\\xff\"", []k{str("\\é\\\xff")}}, {`"a"b`, []k{str("a"), name("b")}}, {`"'"`, []k{str("'")}},
		{`"` + strings.Repeat("x", 300) + `"`, []k{str(strings.Repeat("x", 300))}},
	})
	refused(t, []wrong{
		{`"`, 0, api.ErrShort}, {`"a`, 0, api.ErrShort}, {`a "b`, 2, api.ErrShort}, {`"\`, 0, api.ErrShort}, {`"\"`, 0, api.ErrShort}, {`"\\\"`, 0, api.ErrShort},
		{"\"a\n\"", 0, api.ErrShort}, {"\"\n", 0, api.ErrShort}, {"\"a\\\n\"", 0, api.ErrShort}, {"\"a\\\nb\"", 0, api.ErrShort}, {`"" "`, 3, api.ErrShort},
		{"\"a\n\" \x00", 0, api.ErrShort}, {"'a'", 0, api.ErrForm},
	})
}

// P11.2: a pattern is what stands between two strokes; within a bracket a stroke closes none.
func TestPatterns(t *testing.T) {
	hold(t, []row{
		{"//", []k{regex("")}}, {"/a/", []k{regex("a")}}, {"/=/", []k{regex("=")}}, {"/ #\"/", []k{regex(" #\"")}},
		{`/a\/b/`, []k{regex("a/b")}}, {`/\\/`, []k{regex(`\\`)}}, {`/\\\//`, []k{regex(`\\/`)}}, {`/\n\"\./`, []k{regex(`\n\"\.`)}}, {`/\\\\/`, []k{regex(`\\\\`)}},
		{"/[/]/", []k{regex("[/]")}}, {"/[^/]/", []k{regex("[^/]")}}, {"/[]/]/", []k{regex("[]/]")}}, {"/[^]/]/", []k{regex("[^]/]")}},
		{"/[a]/]/", []k{regex("[a]"), sign("]"), sign("/")}}, {"/[[]/", []k{regex("[[]")}}, {"/[a[]/", []k{regex("[a[]")}}, {"/[[:alpha:]]/", []k{regex("[[:alpha:]]")}},
		{"/[^^]/", []k{regex("[^^]")}}, {"/[a^]/", []k{regex("[a^]")}}, {"/]/", []k{regex("]")}}, {"/a]/", []k{regex("a]")}},
		{`/[\]/]/`, []k{regex(`[\]/]`)}}, {`/[\]]/`, []k{regex(`[\]]`)}}, {`/[\/]/`, []k{regex(`[/]`)}}, {`/[\\]/`, []k{regex(`[\\]`)}}, {`/[\\/]/`, []k{regex(`[\\/]`)}}, {`/[\\\/]/`, []k{regex(`[\\/]`)}},
		{`/\[/`, []k{regex(`\[`)}}, {`/\[/]`, []k{regex(`\[`), sign("]")}}, {`/[\^]/`, []k{regex(`[\^]`)}}, {`/[^\]/]/`, []k{regex(`[^\]/]`)}}, {`/[][/]/`, []k{regex(`[][/]`)}},
		{"/[a]b[/]/", []k{regex("[a]b[/]")}}, {"/[]]/", []k{regex("[]]")}}, {"/[]][/]/", []k{regex("[]][/]")}}, {"/[^]]/", []k{regex("[^]]")}}, {"/(/", []k{regex("(")}},
		{"/é\xff\x00/", []k{regex("é\xff\x00")}}, {"/\\\xff/", []k{regex("\\\xff")}}, {"/a/b", []k{regex("a"), name("b")}}, {"/a//b/", []k{regex("a"), regex("b")}},
		{"/[a^]/]/", []k{regex("[a^]"), sign("]"), sign("/")}}, {"/[^a]/]", []k{regex("[^a]"), sign("]")}},
	})
	refused(t, []wrong{
		{"/", 0, api.ErrShort}, {"/a", 0, api.ErrShort}, {"a ~ /", 4, api.ErrShort}, {`/\`, 0, api.ErrShort}, {`/\/`, 0, api.ErrShort}, {`/\\\/`, 0, api.ErrShort},
		{"/[", 0, api.ErrShort}, {"/[/", 0, api.ErrShort}, {"/[]/", 0, api.ErrShort}, {"/[^]/", 0, api.ErrShort}, {"/[^/", 0, api.ErrShort}, {`/[\]/`, 0, api.ErrShort}, {`/[\`, 0, api.ErrShort}, {"/[a", 0, api.ErrShort},
		{"/a\n/", 0, api.ErrShort}, {"/\n/", 0, api.ErrShort}, {"/[a\n]/", 0, api.ErrShort}, {"/[\n]/", 0, api.ErrShort}, {"/[^\n]/", 0, api.ErrShort}, {"/a\\\n/", 0, api.ErrShort}, {"/[a\\\n]/", 0, api.ErrShort},
		{"/[]][/", 0, api.ErrShort},
	})
}

// P11.2: a / may begin an operand, but not behind one.
func TestStroke(t *testing.T) {
	hold(t, []row{
		{"a / b", []k{name("a"), sign("/"), name("b")}}, {"a ~ /b/", []k{name("a"), sign("~"), regex("b")}},
		{"/a/", []k{regex("a")}}, {" \t\\\n/a/", []k{regex("a")}}, {"\n/a/", []k{line(), regex("a")}}, {"a\n/a/", []k{name("a"), line(), regex("a")}}, {"a #\n/a/", []k{name("a"), line(), regex("a")}},
		{"1/2/3", []k{num("1"), sign("/"), num("2"), sign("/"), num("3")}}, {`"a"/b/c`, []k{str("a"), sign("/"), name("b"), sign("/"), name("c")}},
		{"length/2/b", []k{own("length"), sign("/"), num("2"), sign("/"), name("b")}}, {"f(/a/)", []k{call("f"), sign("("), regex("a"), sign(")")}},
		{"a\\\n/b/c", []k{name("a"), sign("/"), name("b"), sign("/"), name("c")}}, {"/a/ /b/", []k{regex("a"), regex("b")}},
		{"a /= 2", []k{name("a"), sign("/="), num("2")}}, {"a = /=/", []k{name("a"), sign("="), regex("=")}}, {"a /= /=/", []k{name("a"), sign("/="), regex("=")}}, {"a / /b/", []k{name("a"), sign("/"), regex("b")}},
		{"$/a", []k{sign("$"), sign("/"), name("a")}}, {"a++/b/c", []k{name("a"), sign("++"), sign("/"), name("b"), sign("/"), name("c")}},
	})
	for _, s := range strings.Fields(words) {
		hold(t, []row{{s + "/a/", []k{word(s), regex("a")}}, {s + " /=/", []k{word(s), regex("=")}}})
	}
	for _, s := range strings.Fields(owns) {
		hold(t, []row{{s + "/a/", []k{own(s), sign("/"), name("a"), sign("/")}}})
	}
	for _, s := range strings.Fields(signs) {
		if slices.Contains([]string{")", "]", "++", "--", "$"}, s) {
			hold(t, []row{{s + " /a/", []k{sign(s), sign("/"), name("a"), sign("/")}}, {s + "/=", []k{sign(s), sign("/=")}}})
		} else if s[0] != '/' {
			hold(t, []row{{s + " /a/", []k{sign(s), regex("a")}}, {s + "/=/", []k{sign(s), regex("=")}}})
		}
	}
	refused(t, []wrong{{"f(/a)", 2, api.ErrShort}, {"{ /a }", 2, api.ErrShort}, {"print /", 6, api.ErrShort}, {"/a/ /=", 4, api.ErrShort}})
}

// P11.2: of signs the longest; no other byte begins a token.
func TestSigns(t *testing.T) {
	for _, s := range strings.Fields(signs) {
		hold(t, []row{{"a " + s, []k{name("a"), sign(s)}}, {"a " + s + " b", []k{name("a"), sign(s), name("b")}}})
	}
	hold(t, []row{
		{"+++", []k{sign("++"), sign("+")}}, {"---a", []k{sign("--"), sign("-"), name("a")}}, {"+ +", []k{sign("+"), sign("+")}}, {"+-", []k{sign("+"), sign("-")}},
		{"===", []k{sign("=="), sign("=")}}, {"=!", []k{sign("="), sign("!")}}, {"!==", []k{sign("!="), sign("=")}}, {"!!", []k{sign("!"), sign("!")}}, {"!~~", []k{sign("!~"), sign("~")}},
		{">>=", []k{sign(">>"), sign("=")}}, {">=>", []k{sign(">="), sign(">")}}, {">>>", []k{sign(">>"), sign(">")}}, {"<<=", []k{sign("<"), sign("<=")}}, {"=<", []k{sign("="), sign("<")}},
		{"||||", []k{sign("||"), sign("||")}}, {"&&&&", []k{sign("&&"), sign("&&")}}, {"**=", []k{sign("*"), sign("*=")}}, {"%%=", []k{sign("%"), sign("%=")}}, {"~=", []k{sign("~"), sign("=")}}, {"$$", []k{sign("$"), sign("$")}},
		{"a[1]/=2", []k{name("a"), sign("["), num("1"), sign("]"), sign("/="), num("2")}},
	})
	refused(t, []wrong{
		{"&", 0, api.ErrForm}, {"a & b", 2, api.ErrForm}, {"|", 0, api.ErrForm}, {"a | b", 2, api.ErrForm}, {"&&&", 2, api.ErrForm}, {"|||", 2, api.ErrForm}, {"a ^ b", 2, api.ErrForm}, {"a &= b", 2, api.ErrForm},
		{"a\\r", 1, api.ErrForm}, {"\\", 0, api.ErrForm}, {"\\ \n", 0, api.ErrForm}, {"\\n", 0, api.ErrForm}, {"\\\r\n", 0, api.ErrForm}, {"\r\n", 0, api.ErrForm}, {"a\x00", 1, api.ErrForm},
		{"a & \"", 2, api.ErrForm}, {"\" & ", 0, api.ErrShort},
	})
	begins := "!\"#$%()*+,-/:;<=>?[\\]_{}~ \t\n0123456789" + "|&." // these begin one, the last three with others behind
	for c := range 256 {
		s := string([]byte{byte(c)})
		if strings.Contains(begins, s) || lex.Name(s) {
			continue
		}
		refused(t, []wrong{{s, 0, api.ErrForm}, {"a " + s + s + " b", 2, api.ErrForm}, {s + "=", 0, api.ErrForm}})
	}
}

// P11.2: blanks, tabs, \ with a line feed and remarks are passed over; a line feed is a token.
func TestBetween(t *testing.T) {
	hold(t, []row{
		{"", nil}, {" ", nil}, {" \t\t ", nil}, {"\\\n", nil}, {"#", nil}, {"# a \" /", nil}, {"##", nil}, {" \\\n\t\\\n#\x00\xff", nil},
		{"\n", []k{line()}}, {"\n\n", []k{line(), line()}}, {" \n ", []k{line()}}, {"#a\n", []k{line()}}, {"#a\n#b\n", []k{line(), line()}}, {"#a\\\nb", []k{line(), name("b")}},
		{"a#b", []k{name("a")}}, {"a#b\nc", []k{name("a"), line(), name("c")}}, {"a\tb", []k{name("a"), name("b")}}, {"a\\\nb", []k{name("a"), name("b")}}, {"1\\\n2", []k{num("1"), num("2")}},
		{"+\\\n+", []k{sign("+"), sign("+")}}, {"a;#;\n;", []k{name("a"), sign(";"), line(), sign(";")}},
	})
}

// place is the place of a token and how many bytes its text has.
type place struct{ at, long int }

// P11.2, P11.5: each token is where it begins; the end is at the end.
func TestPlaces(t *testing.T) {
	for _, x := range []struct {
		s    string
		want []place
	}{
		{"", []place{{0, 0}}}, {"  ", []place{{2, 0}}}, {"a # b", []place{{0, 1}, {5, 0}}}, {"# b\n", []place{{3, 1}, {4, 0}}},
		{" ab+=1.5\n", []place{{1, 2}, {3, 2}, {5, 3}, {8, 1}, {9, 0}}}, {"\\\nf(\"\\n\")", []place{{2, 1}, {3, 1}, {4, 1}, {8, 1}, {9, 0}}},
		{"~ /\\/a/ ~ /b/ # c", []place{{0, 1}, {2, 2}, {8, 1}, {10, 1}, {17, 0}}}, {"if(a)\n", []place{{0, 2}, {2, 1}, {3, 1}, {4, 1}, {5, 1}, {6, 0}}},
		{"\"é\"x", []place{{0, 2}, {4, 1}, {5, 0}}},
	} {
		l, at, e := lex.Words(x.s)
		var got []place
		for _, w := range l {
			got = append(got, place{w.At, len(w.S)})
		}
		if !slices.Equal(got, x.want) || at != 0 || e != api.OK {
			t.Errorf("Words(%q): %+v, %d, %v, not %v", x.s, l, at, e, x.want)
		}
	}
}

// P11.2: at most 8000 bytes, at most 3000 tokens, the end among them.
func TestLong(t *testing.T) {
	for _, s := range []string{strings.Repeat(" ", 8000), "#" + strings.Repeat("a", 7999), strings.Repeat("ab ", 2666) + "  ", "\"" + strings.Repeat("x", 7998) + "\""} {
		if l, at, e := lex.Words(s); len(l) == 0 || at != 0 || e != api.OK {
			t.Errorf("%.9q: %d, %d, %v", s, len(l), at, e)
		}
	}
	refused(t, []wrong{
		{strings.Repeat(" ", 8001), 0, api.ErrLong}, {strings.Repeat("a", 8001), 0, api.ErrLong}, {"  &" + strings.Repeat(" ", 8000), 0, api.ErrLong}, {"  &" + strings.Repeat(" ", 7997), 2, api.ErrForm},
	})
	for _, x := range []struct {
		s     string
		count int
	}{{strings.Repeat("+", 5998), 3000}, {strings.Repeat("\n", 2999), 3000}, {strings.Repeat("\n", 2999) + " # a", 3000}, {strings.Repeat("; ", 2998) + "a", 3000}, {strings.Repeat(";", 2998), 2999}} {
		if l, at, e := lex.Words(x.s); len(l) != x.count || at != 0 || e != api.OK {
			t.Errorf("%.9q: %d, %d, %v, not %d", x.s, len(l), at, e, x.count)
		}
	}
	refused(t, []wrong{
		{strings.Repeat("\n", 3000), 3000, api.ErrLong}, {strings.Repeat("\n", 3000) + " # a", 3004, api.ErrLong}, {strings.Repeat("\n", 3000) + " a b", 3001, api.ErrLong},
		{strings.Repeat("; ", 3000) + "  a &", 6002, api.ErrLong}, {strings.Repeat("\n", 3001), 3000, api.ErrLong}, {strings.Repeat(";", 3000) + "a\"", 3000, api.ErrLong},
		{strings.Repeat(";", 2998) + "&", 2998, api.ErrForm}, {strings.Repeat(";", 2999) + "&", 2999, api.ErrForm}, {strings.Repeat(";", 2000) + "&" + strings.Repeat(";", 2000), 2000, api.ErrForm},
	})
}

// P11.2: the first fault from the left is told.
func TestFirstFault(t *testing.T) {
	refused(t, []wrong{
		{"& \"", 0, api.ErrForm}, {"\"& \n \"", 0, api.ErrShort}, {"a \\ " + strings.Repeat("b", 41), 2, api.ErrForm}, {strings.Repeat("b", 41) + " &", 0, api.ErrLong},
		{"\"a\" \"b\n\"c\" &", 4, api.ErrShort}, {"/a/ /b\n &", 4, api.ErrShort}, {"# & \n &", 6, api.ErrForm},
	})
}

// P11.3: a text with \ ahead of \ and ", and with \n and \t.
func TestQuote(t *testing.T) {
	for _, x := range [][2]string{
		{"", `""`}, {"a", `"a"`}, {"\\", `"\\"`}, {`"`, `"\""`}, {"\n", `"\n"`}, {"\t", `"\t"`}, {`\n`, `"\\n"`}, {`\"`, `"\\\""`}, {`a/b`, `"a/b"`}, {`\/`, `"\\/"`},
		{"\r\x00\xff é'", "\"\r\x00\xff é'\""}, {"#{", `"#{"`}, {"a\nb\tc\\d\"e", `"a\nb\tc\\d\"e"`}, {`""`, `"\"\""`}, {"\n\n", `"\n\n"`},
	} {
		if s := lex.Quote(x[0]); s != x[1] {
			t.Errorf("Quote(%q): %s, not %s", x[0], s, x[1])
		}
	}
}

// back holds P11.4 against s: Words of Quote are just that text, and the end.
func back(t *testing.T, s string) {
	t.Helper()
	quoted := lex.Quote(s)
	l, at, e := lex.Words(quoted)
	want := []api.Token{{K: api.TokStr, S: s}, {K: api.TokEnd, At: len(quoted)}}
	if !slices.Equal(l, want) || at != 0 || e != api.OK {
		t.Errorf("Quote(%.99q): %.99q, %+v, %d, %v", s, quoted, l, at, e)
	}
}

// P11.4: there and back.
func TestBack(t *testing.T) {
	for _, s := range samples.Joined(5, `\`, `"`, "\n", "\t", "n", "/", "é") {
		back(t, s)
	}
	for c := range 256 {
		s := string([]byte{byte(c)})
		back(t, s)
		back(t, `\`+s)
		back(t, s+`\`)
		back(t, strings.Repeat(s, 3000))
	}
	back(t, strings.Repeat(`"\`, 1500))
}

// P11.2, P11.5: what is told is new with each call, and s is what it was.
func TestNew(t *testing.T) {
	s := "a b"
	l, _, _ := lex.Words(s)
	l[0].S, l[1].At = "x", 9
	if again, _, _ := lex.Words(s); again[0].S != "a" || again[1].At != 2 {
		t.Errorf("%+v", again)
	}
}
