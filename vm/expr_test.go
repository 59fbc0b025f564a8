package vm_test

import (
	"strings"
	"testing"

	"auklet/api"
)

// P18.6: numbers, texts, signs, comparisons, joined texts.
func TestSigns(t *testing.T) {
	tells(t,
		"1.50", "1.5", "0.0000019", "0.000001", `"a\tb\"\\"`, "a\tb\"\\", `""`, "",
		"1 + 2 * 3 - 4 / 8", "6.5", "7 % 4 - 7 % -4 + -7 % 4", "-3", "1 / 3", "0.333333", `"3x" + " 4 "`, "7", `x + y`, "0", `"a" - 1`, "-1",
		`(!0) (!1) (!x) (!"") (!"0")`, "10110", "-\"3x\"", "-3", "+\"3x\" \"y\"", "3y", "- - 2", "2", "-x", "0", "!!5", "1",
		"2 < 10", "1", `"2" < "10"`, "0", `2 < "10"`, "0", "2 <= 2", "1", "2 >= 3", "0", "2 != 2", "0", "2 == 2.0", "1", "(2 > 1)", "1", `x < "a"`, "1", `x == 0`, "1", `"a" == "a"`, "1", `"a" != "a"`, "0", `"b" >= "a"`, "1", `"a" <= "B"`, "0",
		"1 2", "12", `1.50 "x" (-2)`, "1.5x-2", `1 "x" -2`, "1-2", `x y`, "", "1 + 1 2 * 2", "24",
		"1 ? 2 : 3", "2", `"" ? 2 : 3`, "3", "0 ? 1 : 0 ? 2 : 3", "3", "1 ? 0 ? 4 : 5 : 6", "5",
		`"a" || 0`, "1", `0 || ""`, "0", `0 || 2`, "1", `"a" && "b"`, "1", `1 && x`, "0", `x && 1`, "0", `1 && "0"`, "1", `0 || 1 && 0`, "0",
		"(1)(2)(3)", "123")
	hold(t,
		// What is not needed is not asked.
		example{`BEGIN { 1 || x++; 0 && x++; 0 || y++; 1 && y++; 1 ? z++ : w++; 0 ? w++ : z++; print x, y, z, w; print (1 || 1 / 0), (0 && 1 / 0), (1 ? 2 : 1 / 0) }`, "", " 2 2 \n1 0 2\n", api.OK},
		// From the left.
		example{`function f(x) { printf "%s;", x; return x } BEGIN { f(1) + f(2) * f(3); f(4) f(5); f(6) < f(7); f(8) ~ f(9); f(0) || f("a"); a[f("b"), f("c")]; (f("d"), f("e")) in a; $f(1) = f(2); a[f("i"), f("j")] = f("k") }`, "", "1;2;3;4;5;6;7;8;9;0;a;b;c;d;e;2;1;k;i;j;", api.OK},
		example{`BEGIN { print 1; print 1 / 0 }`, "", "1\n", api.ErrZero}, example{`BEGIN { print 1 % "x" }`, "", "", api.ErrZero}, example{`BEGIN { print 9223372036854 * 2 }`, "", "", api.ErrOver}, example{`BEGIN { print 1 - "99999999999999" }`, "", "", api.ErrOver},
		example{`BEGIN { print -"99999999999999" }`, "", "", api.ErrOver}, example{`BEGIN { print !"99999999999999", "99999999999999" < 1 }`, "", "0 0\n", api.OK}, example{`BEGIN { print 9223372036854.775807 + 0.000001 }`, "", "", api.ErrOver})
	half := strings.Repeat("x", 32768)
	hold(t, example{`{ x = $0 $0; print length(x); y = x ""; y = x "z"; print "no" }`, half, "65536\n", api.ErrLong})
}

// P18.6: what a record is asked and set to, field by field.
func TestFields(t *testing.T) {
	hold(t,
		example{`{ print $1 "," $2 "," $3 "," $0 "," NF "," $NF "," $(NF - 1) }`, " a  bc ", "a,bc,, a  bc ,2,bc,a\n", api.OK},
		example{`{ print $1.9, $"2x", $x, $(-0.9), $100 }`, "a b", "a b a b a b \n", api.OK},
		example{`{ print $1 == 10, $1 == "10", $2 < $1, $2 == "9", $3 == x, $3 == "", $9 == 0 }`, "10.0 9", "1 0 1 1 1 1 1\n", api.OK},
		example{`{ $1 = $2 = "x"; print; print NF; print ($3 = 5) + 1, $0; $6 = "f"; print; print NF }`, "a b c", "x x c\n3\n6 x x 5\nx x 5   f\n6\n", api.OK},
		example{`BEGIN { OFS = "-" } { $4 = ""; print; print NF; $2 = "b:c"; print $2, NF }`, "a b", "a-b--\n4\nb:c-4\n", api.OK},
		example{`{ $0 = "x y  z"; print NF, $3, $0; FS = "y"; $0 = $0; print NF, $2; $0 = ""; print NF, $1 "|" }`, "a b", "3 z x y  z\n2   z\n0 |\n", api.OK},
		example{`{ NF = 2; print; NF = 4; print; print NF = 1.9, $0; NF = "3x"; print NF, $0 "|"; NF = 0; print NF $0 "|" $1 }`, "a b c", "a b\na b  \n1.9 a\n3 a  |\n0|\n", api.OK},
		example{`{ NF++; $NF = "n"; print; print NF--, NF, --NF, NF += 2, NF }`, "a b", "a b n\n3 2 1 3 3\n", api.OK},
		example{`BEGIN { OFS = ":" } { $1 += 2; print; $1++; --$2; print; print $2-- $2; $3 = $1 * 2; $0 += 1; print; print NF }`, "3x 4", "5:4\n6:3\n32\n7\n1\n", api.OK},
		example{`{ OFS = "-"; print $0; $1 = $1; print $0; OFS = "+"; print $0; NF = NF; print $0 }`, "a b", "a b\na-b\na-b\na+b\n", api.OK},
		// What is told is what was set, not what is read there then.
		example{`{ x = ($1 = 2.50); print x == "2.5", ($1 == "2.50"), (NF = "1e"), (NF == 1); x = ($0 = "10"); print x < 9, $0 < 9 }`, "a b", "1 0 1e 1\n1 0\n", api.OK},
		example{`{ print; print $(-1) }`, "a", "a\n", api.ErrField}, example{`{ print; print $101 }`, "a", "a\n", api.ErrField}, example{`{ $(-1) = 1 }`, "a", "", api.ErrField}, example{`{ $101 = 1 }`, "a", "", api.ErrField}, example{`{ $100 = 1; print NF }`, "a", "100\n", api.OK},
		example{`{ NF = 101 }`, "a", "", api.ErrField}, example{`{ NF = -1 }`, "a", "", api.ErrField}, example{`{ NF = -0.9; print NF }`, "a", "0\n", api.OK}, example{`{ NF = 100; print NF }`, "a", "100\n", api.OK}, example{`{ NF = "99999999999999" }`, "a", "", api.ErrOver}, example{`{ print $"99999999999999" }`, "a", "", api.ErrOver},
		example{`{ print NF; $0 = "` + strings.Repeat("x ", 101) + `" }`, "a", "1\n", api.ErrLong}, example{`{ FS = "a("; print $1; $0 = "" }`, "a", "a\n", api.ErrShort},
		// The first thing that is wrong ends the run.
		example{`{ $101 += "99999999999999" }`, "a", "", api.ErrField}, example{`{ $1 += "99999999999999" }`, "a", "", api.ErrOver}, example{`{ $(1 / 0) = 1 % 0 + $101 }`, "a", "", api.ErrZero}, example{`{ $(1 / 0) = $101 }`, "a", "", api.ErrField}, example{`{ $(-1)++ }`, "a", "", api.ErrField}, example{`{ $"99999999999999" = 1 }`, "a", "", api.ErrOver})
}

// P18.6: what is set, and in which order it is asked.
func TestAssign(t *testing.T) {
	hold(t,
		example{`BEGIN { x = y = 3; print x, y; print x += 2, x -= 1, x *= 3, x /= 8, x %= 1, x; print (z = "a") z; z = w; print z == 0, z == "" }`, "", "3 3\n5 4 12 1.5 0.5 0.5\naa\n1 1\n", api.OK},
		example{`BEGIN { s = "3x"; s += s; print s; t = "a"; print t += 1; u -= 2; print u; x = 2; x *= x += 3; print x }`, "", "6\n1\n-2\n25\n", api.OK},
		// The right part comes first, then subscripts and numbers of fields.
		example{`BEGIN { i = 1; a[i] = i = 2; for (k in a) print k; i = 1; a[i++] += i++ * 10; print a[2], i; a[3] = 5; a[j] = a[j = 3]; print a[3], a[""] "|" }`, "", "2\n12 3\n5 |\n", api.OK},
		example{`{ i = 1; $i = i = 2; print; $(i++) = i++; print; print i }`, "a b c", "a 2 c\na 2 2\n4\n", api.OK},
		example{`BEGIN { FS = 1; OFS = x; print FS + 1, OFS, "|"; NR = "a"; print NR; RSTART = RLENGTH = 7; print RSTART, RLENGTH }`, "", "2|\na\n77\n", api.OK},
		example{`BEGIN { print 1; x += "99999999999999" }`, "", "1\n", api.ErrOver}, example{`BEGIN { x = 1; x /= 0 }`, "", "", api.ErrZero})
	is(t, `persist a; BEGIN { a["x"] /= 0 }`, api.Input{Fuel: 100}, api.Result{Err: api.ErrZero, Kept: []api.Array{{Name: "a", Keys: []string{"x"}, Cells: []api.Cell{{}}}}})
	is(t, `persist a; BEGIN { a["x"] = 1 / 0 }`, api.Input{Fuel: 100}, api.Result{Err: api.ErrZero, Kept: []api.Array{{Name: "a"}}})
	is(t, `persist a; BEGIN { a[1] = 1.5; a[2] = "1.5"; a[3] = x; a[4] = $0; a[5] = a[1]; a[6] += a[2]; a[7] = (a[8] = 2) } { a[9] = $1; a[10] = $2; a[11] = $0; a[12] = $3 }`, api.Input{Main: " 7 x", Fuel: 100}, api.Result{Kept: []api.Array{{Name: "a",
		Keys:  []string{"1", "10", "11", "12", "2", "3", "4", "5", "6", "7", "8", "9"},
		Cells: []api.Cell{{K: 1, N: 1500000}, str("x"), str(" 7 x"), {}, str("1.5"), {}, str(""), {K: 1, N: 1500000}, {K: 1, N: 1500000}, num(2), num(2), {K: api.Looks, N: 7000000, S: "7"}}}}})
}

// P18.6: one more, one less: told is a number, the one that is set, or the one that was there.
func TestStepped(t *testing.T) {
	hold(t,
		example{`BEGIN { print x++, x, ++x, x, x--, x, --x, x }`, "", "0 1 2 2 2 1 0 0\n", api.OK},
		example{`BEGIN { x = "3x"; print x++, x; y = "a"; print y--, y; z = " 2.5 "; print ++z, --z }`, "", "3 4\n0 -1\n3.5 2.5\n", api.OK},
		example{`BEGIN { print a[1]++, ++a[1], a[1]; i = 5; a[i++]++; print i, a[5], a[6] "|"; --a["x", i]; for (k in a) print k ":" a[k] }`, "", "0 2 2\n6 1 |\n1:2\n5:1\n6:\nx\x1c6:-1\n", api.OK},
		example{`{ print $1++, $1, --$2, $0; $(i++)++; print i, $0, NF }`, "4y 1 z", "4 5 0 5 0 z\n1 6 1\n", api.OK},
		example{`BEGIN { print NR++, NR, RLENGTH--, RLENGTH }`, "", "0 1 -1 -2\n", api.OK},
		example{`BEGIN { x = 9223372036854.7; print 1; x++ }`, "", "1\n", api.ErrOver}, example{`BEGIN { x = -9223372036854.7; x-- }`, "", "", api.ErrOver}, example{`BEGIN { x = "99999999999999"; print 1; --x }`, "", "1\n", api.ErrOver}, example{`{ $101++ }`, "a", "", api.ErrField})
	is(t, `persist a; BEGIN { a["x"] = "2y"; print a["x"]++; a["y"]--; x = a["z"]-- }`, api.Input{Fuel: 100}, api.Result{Out: "2\n", Kept: []api.Array{{Name: "a", Keys: []string{"x", "y", "z"}, Cells: []api.Cell{num(3), num(-1), num(-1)}}}})
}

// P18.6: elements are there as soon as they are asked, but not where it is asked whether they are; subscripts are texts, joined by SUBSEP.
func TestElements(t *testing.T) {
	hold(t,
		example{`BEGIN { print a[1] "|", (1 in a), (2 in a), (2 in a); x = a[3] a["4"]; for (k in a) print k }`, "", "| 1 0 0\n1\n3\n4\n", api.OK},
		example{`BEGIN { a[1] = "n"; a["1"] = "t"; a[01.0] = "d"; print a[1]; a[0.50] = 1; print a["0.5"], ("" in a), a[x] "|", ("" in a), (x in a) }`, "", "d\n1 0 | 1 1\n", api.OK},
		example{`BEGIN { a[1, "x"] = 5; print a["1\x1cx"] "|", ((1, "x") in a), a[1 SUBSEP "x"]; SUBSEP = "--"; a[1, 2, 3]; for (k in a) if (k ~ /-/) print k; SUBSEP = 7; a["p", "q"]; print ("p7q" in a); print a[1, (SUBSEP = "+")] "|"; print (1 SUBSEP SUBSEP in a) }`, "", "| 1 5\n1--2--3\n1\n|\n1\n", api.OK},
		example{`{ a[$1]++ } END { print a["10"], a["10.0"], a[10] }`, "10\n10.0\n10\n", "2 1 2\n", api.OK},
		example{`{ print ($1 in a), (a[$1] == ""), ($1 in a) }`, "x y", "0 1 1\n", api.OK},
		example{`BEGIN { print (1 in a in b), (a[1, 2] in b); b[0]; print (1 in a in b) }`, "", "0 0\n1\n", api.OK},
		example{`BEGIN { x = sprintf("%200s", "x"); a[x] = 1; print (x in a), a[x]; y = x "y"; print (y in a) }`, "", "1 1\n", api.ErrKey},
		example{`BEGIN { x = sprintf("%199s", "x"); a[x, ""]; print 1; a[x, 1] = 2 }`, "", "1\n", api.ErrKey},
		example{`BEGIN { SUBSEP = sprintf("%200s", "x"); a["", ""]; print 1; a[1, ""]++ }`, "", "1\n", api.ErrKey})
}

// P18.6: a pattern by itself is looked for in the record; others in texts.
func TestPatternsFound(t *testing.T) {
	hold(t,
		example{`{ print /b/, /^b/, !/b/, /b/ + 1, (/a/ || 0), /x/ "" }`, "abc\nb", "1 0 0 2 1 0\n1 1 0 2 0 0\n", api.OK},
		example{`{ print $1 ~ /b$/, $1 ~ $2, $1 !~ $2, "a+b" ~ "a\\+b", "a+b" ~ "a+b", 105 ~ 0, "x" ~ x, "" ~ /^$/ }`, "ab a.", "1 1 0 1 0 1 1 1\n", api.OK},
		example{`BEGIN { p = "^[0-9]+$"; print 12 ~ p, "1x" ~ p, "a" ~ /a/ ~ 1, /x/ ~ 0, "" ~ /x/, /^$/ ~ /1/ }`, "", "1 0 1 1 0 1\n", api.OK},
		example{`{ print; print $1 ~ "a(" }`, "a", "a\n", api.ErrShort}, example{`{ print; print /a)/ }`, "a", "a\n", api.ErrForm}, example{`{ print "x" !~ /*/ }`, "a", "", api.ErrRepeat}, example{`{ print "x" ~ "[[:x:]]" }`, "a", "", api.ErrClass}, example{`{ print "x" ~ /[b-a]/ }`, "a", "", api.ErrForm}, example{`{ print "x" ~ /(a{50}){10}/ }`, "a", "", api.ErrLong},
		// The text, the pattern, whether it is one, whether the text is too long.
		example{`BEGIN { print (1 / 0) ~ "(" }`, "", "", api.ErrZero}, example{`BEGIN { print "a" ~ ("(" $101) }`, "", "", api.ErrField})
	long := strings.Repeat("x", 100)
	hold(t,
		example{`{ print /x/, $0 ~ "^x+$" }`, long, "1 1\n", api.OK}, example{`{ print 1; print /x/ }`, long + "x", "1\n", api.ErrLong}, example{`{ print ($0 !~ "x") }`, long + "x", "", api.ErrLong}, example{`{ print ($0 ~ "(x") }`, long + "x", "", api.ErrShort},
		example{`{ print "x" ~ $0 }`, long + long, "0\n", api.OK}, example{`{ print "x" ~ ($0 $0 $0 $0 "y") }`, long, "", api.ErrLong})
	// More patterns than are kept are each what they are.
	hold(t, example{`BEGIN { for (i = 0; i < 300; i++) n += (i ~ ("^" i "$")) + (i ~ ("^" i "x$")); for (i = 0; i < 300; i++) n += ("x" i) ~ ("^x" i "$"); print n }`, "", "600\n", api.OK})
}

// P18.6: calls: what is handed in, what is told, and how deep they lie.
func TestCalls(t *testing.T) {
	hold(t,
		example{`function f(x, y) { x = x + 1; return x y } BEGIN { x = 5; print f(1, 2), f(x), f(), x, y "|" }`, "", "22 6 1 5 |\n", api.OK},
		example{`function f() { } function g() { return } function h(x) { if (x) return x } BEGIN { print "<" f() g() h() h(0) h("a") ">", f() == 0, g() == "" }`, "", "<a> 1 1\n", api.OK},
		example{`function set(a, k, v) { a[k] = v; return length(v) } BEGIN { n = set(p, 1, "one") + set(p, "x", "ex"); for (k in p) print k, p[k]; print n }`, "", "1 one\nx ex\n5\n", api.OK},
		example{`function f(n, l) { l[n] = n; if (n > 0) f(n - 1); s = ""; for (k in l) s = s k; print n, s; n = 9 } BEGIN { f(2) }`, "", "0 0\n1 1\n2 2\n", api.OK},
		example{`function f(a, b) { a["f"]; b["f"]; return g(b, a) } function g(p, q, r) { p["g"]; q["h"]; r["r"]; return h(r) } function h(z) { for (k in z) return k } BEGIN { print f(u, v); for (k in u) print "u" k; for (k in v) print "v" k; print f(u, u), f(); for (k in u) print "u" k }`, "", "r\nuf\nuh\nvf\nvg\nr r\nuf\nug\nuh\n", api.OK},
		example{`function f(n) { return n < 2 ? 1 : n * f(n - 1) } BEGIN { print f(10); print f(3) f(f(3)) }`, "", "3628800\n6720\n", api.OK},
		example{`function f(x) { printf "%s;", x; return x } function g(a, b, c) { return c b a } BEGIN { print g(f(1), f(2), f(3)); print g(f(1) f(2)) }`, "", "1;2;3;321\n1;2;12\n", api.OK},
		example{`function f(x) { x = 2; y = 3; $0 = "new"; return } { y = 1; f(y); f($1); print y, $0, NF }`, "a b", "3 new 1\n", api.OK},
		example{`function f(x) { x[1] = "e" } function g(y) { return y y } BEGIN { f(a); print g(a[1]), g(a[2]) "|"; for (k in a) print k }`, "", "ee |\n1\n2\n", api.OK},
		example{`function p(NFx) { return NFx NR NF } { print p(1) }`, "a b", "112\n", api.OK},
		example{`function f(i) { for (i = 0; i < 9; i++) { while (1) { if (i == 3) return i; break } } } BEGIN { print f() f(5) }`, "", "33\n", api.OK})
	hold(t,
		example{`function f(n) { m = n; if (n > 1) f(n - 1); return } BEGIN { f(50); print m; f(50); print m; f(51); print "no" }`, "", "1\n1\n", api.ErrCalls},
		example{`function f(n) { d++; f() } BEGIN { print 1; f() } END { print "no" }`, "", "1\n", api.ErrCalls},
		example{`function f(n) { return n > 1 ? 1 + g(n - 1) : 1 } function g(n) { return n > 1 ? 1 + f(n - 1) : 1 } { print f($1) }`, "49\n50\n51", "49\n50\n", api.ErrCalls},
		// Parts are asked where the call stands, and lie in no call of it.
		example{`function f(x, y) { return x + y } function g(n) { return n > 1 ? f(1, g(n - 1)) : 1 } BEGIN { print g(49); x = f(f(f(f(1, 1), 1), 1), f(1, 1)); print x; print g(50); print g(51) }`, "", "49\n6\n50\n", api.ErrCalls})
	// An exit leaves all calls.
	hold(t, example{`function f(n) { if (n > 1) return f(n - 1); if (NR) print n; else exit } BEGIN { f(50) } END { NR = 1; f(50) }`, "", "1\n", api.OK})
	// The step of a call is counted ahead of it.
	s := "function f(n) { f() }\nBEGIN { f() }"
	is(t, s, api.Input{Fuel: 2 + 3*50}, api.Result{Err: api.ErrFuel})
	is(t, s, api.Input{Fuel: 2 + 3*50 + 1}, api.Result{Err: api.ErrCalls})
}
