package vm_test

import (
	"strings"
	"testing"

	"auklet/api"
)

// P18.7: the functions that code.Own has, and length of the record.
func TestOwn(t *testing.T) {
	tells(t, `length("héllo")`, "5", `length(12.50)`, "4", `length(x) length("")`, "00", `length`, "0", `substr("hello", 2, 3)`, "ell", `substr("hello", 2)`, "ello", `substr("hello", 0, 2)`, "h", `substr("hello", 1.9, "2x")`, "he", `substr(12345, -1)`, "12345", `substr("a", 2) "|"`, "|",
		`index("banana", "na")`, "3", `index("a", "")`, "1", `index("a", "b")`, "0", `tolower("ABcÉ") toupper("abCé")`, "abcÉABCé", `int(3.9) int(-3.9) int("4.5x") int("x")`, "3-340", `sprintf("%d|%5.2f|%s", 3.9, 3.14159, "s")`, "3| 3.14|s", `sprintf("%s%s|", "a")`, "a|", `sync() `, "1")
	hold(t,
		example{`{ print length, length(), length($1), length $1; $1 = "xyz"; print length }`, "ab c", "4 4 2 4ab\n5\n", api.OK},
		example{`function f(x) { printf "%s;", x; return x } BEGIN { substr(f("a"), f(1), f(2)); index(f("b"), f("c")); print sprintf(f("%s%s"), f("d"), f("e")) }`, "", "a;1;2;b;c;%s%s;d;e;de\n", api.OK},
		example{`BEGIN { print 1; print int("99999999999999") }`, "", "1\n", api.ErrOver}, example{`BEGIN { print substr("a", 1, "99999999999999") }`, "", "", api.ErrOver}, example{`BEGIN { print sprintf("%") }`, "", "", api.ErrFormat}, example{`BEGIN { print sprintf("%c", -1) }`, "", "", api.ErrFormat},
		example{`{ print length($0 $0 $0) }`, strings.Repeat("x", 30000), "", api.ErrLong}, example{`{ print length(sprintf("%s%s", $0, $0)); sprintf("%s%s%s", $0, $0, $0); print "no" }`, strings.Repeat("x", 30000), "60000\n", api.ErrLong})
}

// P18.7: where match finds, in characters, and what it sets.
func TestMatch(t *testing.T) {
	hold(t,
		example{`{ print match($2, $1), RSTART, RLENGTH }`, "b+ abbb\nx* ab\n$ a\nq ab\n^b ab\n[a-c]+ xabcd", "2 2 3\n1 1 0\n2 2 0\n0 0 -1\n0 0 -1\n2 2 3\n", api.OK},
		example{`BEGIN { print match("xaay", /a+/), RSTART, RLENGTH, match("é€x", /x/), RSTART, RLENGTH; print match("xé€é", /é€/), RLENGTH, match("", /a*/), RSTART, RLENGTH, match("b", /a/) RSTART RLENGTH; print match("a\xc", ".$"), RLENGTH }`, "", "2 2 2 3 3 1\n2 2 1 1 0 00-1\n4 1\n", api.OK},
		example{`{ print match($0, "b.*"), RSTART, RLENGTH }`, "\xff\xffb\xffé", "3 3 3\n", api.OK},
		example{`BEGIN { RSTART = "x"; RLENGTH = "y"; match("a", "a"); print RSTART == "1", RLENGTH == "1", RSTART + RLENGTH; match("a", "b"); print RSTART, RLENGTH }`, "", "1 1 2\n0 -1\n", api.OK},
		example{`function f(x) { printf "%s;", x; return x } BEGIN { print match(f("ab"), f("b")) }`, "", "ab;b;2\n", api.OK},
		example{`{ print match(/x/, /1/), match("/x/", /x/), match(1, /x/ + 1) }`, "x", "1 2 0\n", api.OK},
		example{`BEGIN { print 1; match("a", "(") }`, "", "1\n", api.ErrShort}, example{`{ print match($0, "x$"); print match($0 "x", "("); print "no" }`, strings.Repeat("x", 100), "100\n", api.ErrShort}, example{`{ RSTART = 7; print match($0, "x"), RSTART; match($0 "x", "x") }`, strings.Repeat("x", 100), "1 1\n", api.ErrLong})
}

// P18.7: a text parted into an array, by a pattern or as FS parts.
func TestSplit(t *testing.T) {
	hold(t,
		example{`BEGIN { print split(" a  b ", a), a[1], a[2]; print split("a:b::c", a, ":"), a[3] "|" a[4]; for (k in a) print k; print split("", a); for (k in a) print "no" }`, "", "2 a b\n4 |c\n1\n2\n3\n4\n0\n", api.OK},
		example{`BEGIN { print split("a1b22c", a, /[0-9]+/), a[3]; print split("a1b22c", a, "[0-9]+"), a[2]; print split("a.b", a, "."), a[2]; print split("a.b", a, /./), a[1] "|"; print split("a  b", a, / /), a[2]; print split("a  b", a, " "), a[2]; print split("aé", a, ""), a[2]; print split("abc", a, //), a[1] }`, "", "3 c\n3 b\n2 b\n4 |\n3 \n2 b\n2 é\n1 abc\n", api.OK},
		example{`BEGIN { FS = ","; print split("a b,c", a), a[1]; FS = "[,b]+"; print split("a b,c", a), a[2]; FS = ""; print split("xyz", a) } { print NF, split($0, b), b[2] }`, "p q", "2 a b\n2 c\n3\n3 3  \n", api.OK},
		example{`BEGIN { n = split("10 x 1.0", a); print a[1] < 9, a[1] == "10", a[3] == 1, a[2] == 0, a[4] == a[5], n }`, "", "0 1 1 0 1 3\n", api.OK},
		example{`BEGIN { a[1] = "p q"; a["x"]; print split(a[1], a), a[1], a[2], ("x" in a); split(a[2] " " a[1] " z", a); print a[1] a[2] a[3] }`, "", "2 p q 0\nqpz\n", api.OK},
		example{`function f(b) { return split("u v", b) } BEGIN { a[9]; print f(a), a[2], (9 in a), f() }`, "", "2 v 0 2\n", api.OK},
		example{`function f(x) { printf "%s;", x; return x } BEGIN { print split(f("ab"), a, f("b")), split(12.5, a, f(2)), a[2] }`, "", "ab;b;2;2 2 .5\n", api.OK},
		example{`BEGIN { a[1]; split("x", a, "a("); } END { for (k in a) print k }`, "", "", api.ErrShort}, example{`BEGIN { split("", a, "a(") }`, "", "", api.ErrShort}, example{`BEGIN { split("x", a, "\\") }`, "", "", api.ErrShort}, example{`BEGIN { split("x", a, /+/) }`, "", "", api.ErrRepeat}, example{`BEGIN { FS = "a)"; split("", a) }`, "", "", api.ErrForm})
	long := strings.Repeat("x", 100)
	hold(t,
		example{`{ print split($0, a, "xx"), split($0, a, /x/), split($0 "y", a, "x"), split($0 "y", a), split($0 "y", a, ""); print split($0 "y", a, "xx") }`, long, "51 101 101 1 101\n", api.ErrLong},
		example{`{ split($0 "y", a, /x/) }`, long, "", api.ErrLong}, example{`{ split($0 "y", a, "x(") }`, long, "", api.ErrShort})
	// Nothing of the array is changed by what can't be parted.
	is(t, `persist a; { a["k"]; split($0 "y", a, /x/) }`, api.Input{Main: long, Fuel: 100}, api.Result{Err: api.ErrLong, Kept: []api.Array{{Name: "a", Keys: []string{"k"}, Cells: []api.Cell{{}}}}})
	is(t, `persist a; { split($0, a); split("p:10: 7", b, ":"); a["x"] = b[2] }`, api.Input{Main: "x 5.0", Fuel: 100}, api.Result{Kept: []api.Array{{Name: "a", Keys: []string{"1", "2", "x"}, Cells: []api.Cell{str("x"), {K: api.Looks, N: 5000000, S: "5.0"}, {K: api.Looks, N: 10000000, S: "10"}}}}})
}

// P18.7: what sub and gsub replace, where, and what they tell.
func TestSub(t *testing.T) {
	hold(t,
		example{`{ print sub(/a/, "<&>"), $0, NF; print gsub(/a/, "\\&x"), $0; print gsub("n|b", ""), $0, sub(/q/, "no"), $0 }`, "banana", "1 b<a>nana 1\n3 b<&x>n&xn&x\n3 <&x>&x&x 0 <&x>&x&x\n", api.OK},
		example{`BEGIN { x = "aaa"; print sub("a", "b", x) x, gsub(/a/, "c d", x) x, gsub(/z*/, "-", x) x; y[1] = "aa"; print gsub(/a/, "&&", y[1]) y[1]; n = 105; print sub(0, "x", n) n, sub(/^/, 1, m) m }`, "", "1baa 2bc dc d 8-b-c- -d-c- -d-\n2aaaa\n11x5 11\n", api.OK},
		example{`BEGIN { OFS = "-" } { print sub(/a/, "x y", $2), $0, NF; print gsub(/a/, "b", $1) $0; print sub(/^$/, "z", $5) $0, NF; sub("z", "p q"); print NF }`, "aa ab c", "1-aa-x yb-c-3\n2bb-x yb-c\n1bb-x yb-c--z-5\n3\n", api.OK},
		example{`{ $0 = "b a"; print gsub(/ /, ":"), NF, $1; FS = ":"; print gsub(/b/, "c"), NF, $2 }`, "x", "1 1 b:a\n1 2 a\n", api.OK},
		example{`{ print sub(/3/, 1, NF), $0, NF; print sub(/1/, "1x", NR) NR, NR + 1; print sub(/ /, "b", FS) FS; x = "7"; sub(7, 8, x); print x == "8", x < 9 }`, "a b c", "1 a 1\n11x 2\n1b\n1 1\n", api.OK},
		// Only where something is replaced something is set; but what is asked is there.
		example{`BEGIN { OFS = "-" } { print sub(/x/, "y"), $0; $0 = "a  b"; gsub(/x/, "y", $1); print; print sub(/x/, "y", $7), NF; x = 1.50; gsub("z", "y", x); print x == 1.5, (x < "1"); print gsub(/x/, "", a["k"]), ("k" in a) }`, "a  b", "0-a  b\na  b\n0-2\n1-0\n0-1\n", api.OK},
		// The pattern, what to put, then what to set.
		example{`function f(x) { printf "%s;", x; return x } BEGIN { a["k"] = "aa"; print sub(f("a"), f("b"), a[f("k")]), a["k"]; print gsub(f(1), f(2), $f(3)) }`, "", "a;b;k;1 ba\n1;2;3;0\n", api.OK},
		example{`BEGIN { a[1] = "x"; a[2] = "x"; i = 1; print sub("x", "y", a[i++]), i, a[1] a[2]; $(j = 2) = "q"; print sub(/q/, j, $(j++)), j, $2 }`, "", "1 2 yx\n1 3 2\n", api.OK},
		example{`BEGIN { print 1; sub("(", 1 / 0, $101) }`, "", "1\n", api.ErrShort}, example{`BEGIN { sub(/*/, "x") }`, "", "", api.ErrRepeat}, example{`BEGIN { sub("a", 1 / 0, $101) }`, "", "", api.ErrZero}, example{`BEGIN { sub("a", "b", $101) }`, "", "", api.ErrField}, example{`BEGIN { gsub("a", "b", $"99999999999999") }`, "", "", api.ErrOver},
		example{`BEGIN { a[101] = x = "0"; sub("0", "101", x); NF = 2; print 1; sub(2, 101, NF) }`, "", "1\n", api.ErrField}, example{`{ FS = "a("; print 1; sub("x", "y") }`, "x", "1\n", api.ErrShort}, example{`{ FS = ""; print gsub(/x/, "yyy"); print NF; FS = " "; gsub(/y/, "&&") ; FS = "yy"; print "no" ; $0 = $0 }`, strings.Repeat("x", 33), "33\n99\nno\n", api.ErrLong})
	long := strings.Repeat("x", 100)
	hold(t,
		example{`{ y = $0; print gsub(/x/, "y", y), gsub(/x/, $0), length; sub("q", "q") }`, long, "100 100 10000\n", api.ErrLong},
		example{`{ y = $0 "x"; print sub("q", $0); sub("q", "z", y) }`, long, "0\n", api.ErrLong}, example{`{ y = $0 "x"; sub("q(", "z", y) }`, long, "", api.ErrShort}, example{`{ print sub("x", $0), sub("y", $0 "z", y) }`, long, "", api.ErrLong}, example{`{ x = "q"; y = $0 "z"; print gsub("z", y, x) }`, long, "", api.ErrLong}, example{`{ y = $0 "z"; sub("z", y, $101) }`, long, "", api.ErrField},
		example{`{ y = "&"; while (length(y) < 100) y = y "&"; print gsub(/x/, y), length; $0 = "` + long + `"; print sub(/x*/, y), length }`, long, "100 10000\n1 10000\n", api.OK})
}

// P18.7: a text in which a pattern is looked for has at most so many bytes; also a record that is taken, but no record that is read.
func TestSubject(t *testing.T) {
	long := strings.Repeat("z", 100)
	for _, fs := range []string{"xy", "[x]", "x|y", "ab"} {
		hold(t,
			example{`BEGIN { FS = "` + fs + `" } { print length }`, long + "\n" + long + "z", "100\n", api.ErrLong},
			example{`{ FS = "` + fs + `"; $0 = $0; print length; $0 = $0 "z" }`, long, "100\n", api.ErrLong},
			example{`{ FS = "` + fs + `"; print getline, length; getline }`, "a\n" + long + "\n" + long + "z", "1 100\n", api.ErrLong},
			example{`{ FS = "` + fs + `"; $1 = $0 "z"; print length; NF = 5; print length; getline y; print length(y); $1 = 1; print }`, long + "\n" + long + long, "101\n105\n200\n1    \n", api.OK})
	}
	for _, fs := range []string{" ", "", "x", "(", ","} {
		hold(t, example{`{ FS = "` + fs + `"; $0 = $0 "a"; print length; n = NF }`, strings.Repeat("y ", 45) + strings.Repeat(" ", 9), "100\n", api.OK})
	}
	hold(t,
		// What is too long is so ahead of what is no pattern, where it is a record.
		example{`BEGIN { FS = "a(" } { }`, long, "", api.ErrShort}, example{`BEGIN { FS = "a(" } { }`, long + "z", "", api.ErrLong}, example{`BEGIN { FS = "\\" } { }`, long + "z", "", api.ErrLong}, example{`BEGIN { FS = "\\" } { }`, "x", "", api.ErrShort},
		example{`BEGIN { RS = "y+" } { print length }`, long + long + "yy" + long + long + long, "200\n300\n", api.OK},
		example{`BEGIN { RS = "y+"; while ((getline x < "f") > 0) print length(x) }`, "", "", api.OK})
}

// P18.7: getline, from the main input and from files, into the record or elsewhere.
func TestGetline(t *testing.T) {
	main := "m 1\nm 2\nm 3\nm 4"
	hold(t,
		example{`{ print NR, $0; print getline, NR, $0, NF; print getline x, NR, $0, x }`, main, "1 m 1\n1 2 m 2 2\n1 3 m 2 m 3\n4 m 4\n0 4 m 4 2\n0 4 m 4 m 3\n", api.OK},
		example{`BEGIN { while (getline > 0) s = s $2; print s, NR, $0; print getline, getline x, x "|", NR } { print "no" } END { print NR, $0 }`, main, "1234 4 m 4\n0 0 | 4\n4 m 4\n", api.OK},
		example{`NR == 2 { getline } { print } END { print getline, $0 }`, main, "m 1\nm 3\nm 4\n0 m 4\n", api.OK},
		example{`BEGIN { NR = 7; getline; print NR; getline x; print NR; NR = "2x"; getline; print NR, NR == 3 }`, main, "8\n9\n3 1\n", api.OK},
		example{`{ getline $2; print $0, NF; getline $0; print $1, NF; getline NF; print NF, $0 "|" }`, "a b\nc d\ne f g\n2\n", "a c d 2\ne 3\n2 e f|\n", api.OK},
		example{`{ getline a[i++]; print i, a[0]; getline a[i++]; print i, a[1]; getline a[i++]; print i, (2 in a) }`, "a\nb\nc", "1 b\n2 c\n2 0\n", api.OK},
		example{`BEGIN { getline x; print x < 9, x == "10", x + 1; getline y; print y < 9, y == 9.5 }`, "10\n 9.50 ", "0 1 11\n0 1\n", api.OK},
		example{`BEGIN { RS = ";"; getline; print; RS = "[0-9]"; getline; print; RS = "" ; getline x; print x; RS = "a("; print getline }`, "a b;c1d\n\n\ne\n", "a b\nc\nd\n", api.ErrShort},
		example{`BEGIN { RS = "a("; print getline, getline x }`, "", "0 0\n", api.OK},
		example{`BEGIN { FS = "a("; print getline x, x; print getline }`, main, "1 m 1\n", api.ErrShort}, example{`BEGIN { NR = 9223372036854; print 1; getline x }`, main, "1\n", api.ErrOver}, example{`BEGIN { NR = 9223372036854; FS = "a("; getline }`, main, "", api.ErrOver}, example{`BEGIN { print 1; getline $101 }`, main, "1\n", api.ErrField}, example{`BEGIN { print getline $(1 / 0) }`, "", "0\n", api.OK}, example{`BEGIN { print getline $(1 / 0) }`, main, "", api.ErrZero}, example{`BEGIN { getline NF }`, "101", "", api.ErrField})
	in := api.Input{Main: main, Fuel: 200, Files: []api.File{{Name: "f", S: "f 1\nf 2\n"}, {Name: "5", S: "five"}, {Name: "f", S: "no"}, {Name: "", S: "e 1\n10\n"}}}
	files := func(s, out string, e api.Errno) {
		t.Helper()
		is(t, s, in, api.Result{Out: out, Err: e})
	}
	files(`BEGIN { print getline < "f", NR, $0, NF; print getline x < "f", NR, $0, x; print getline < "f", getline x < "f", $0, x; print getline < "none", getline x < "none", x }`, "1 0 f 1 2\n1 0 f 1 f 2\n0 0 f 1 f 2\n-1 -1 f 2\n", api.OK)
	files(`BEGIN { n = 2; print (getline x < (n + 3)), x; print (getline x < n + 3), x; print (getline < y) $0, (getline x < "") x < 9, x == 10 }`, "1 five\n2 five\n1e 1 1 1\n", api.OK)
	files(`{ while ((getline x < "f") > 0) print x; print; getline; getline y < 5; print $0 y }`, "f 1\nf 2\nm 1\nm 2five\nm 3\nm 4five\n", api.OK)
	is(t, `BEGIN { print "new" > "f"; getline x < "f"; print x; print >> "f"; getline x < "f"; print x }`, in, api.Result{Out: "f 1\nf 2\n", Files: []api.File{{Name: "f", S: "new\n\n"}}})
	files(`BEGIN { RS = " "; getline x < "f"; print x; RS = "\n"; getline x < "f"; print x; getline x; print x }`, "f\n1\nm 1\n", api.OK)
	files(`function f(x) { printf "%s;", x; return x } BEGIN { (getline a[f("k")] < f("f")); (getline a[f("j")] < f("none")); (getline $f(2) < "f"); print $0 }`, "f;k;none;2; f 2\n", api.OK)
	files(`BEGIN { RS = "a("; print getline < "none"; print getline < "f" }`, "-1\n", api.ErrShort)
	files(`BEGIN { FS = "a("; print getline x < "f"; print getline < "f" }`, "1\n", api.ErrShort)
	files(`BEGIN { NR = 9223372036854; print getline < "f", getline x < "f" }`, "1 1\n", api.OK)
	files(`BEGIN { print getline < (1 / 0) }`, "", api.ErrZero)
}

// P18.7: sync is 1 also where nothing is kept.
func TestSync(t *testing.T) {
	in := api.Input{Fuel: 100, Kept: []api.Array{{Name: "a", Keys: []string{"k"}, Cells: []api.Cell{num(1)}}}}
	is(t, `persist a; BEGIN { x = sync() + sync() ; print x; a["k"]++ }`, in, api.Result{Out: "2\n", Kept: []api.Array{{Name: "a", Keys: []string{"k"}, Cells: []api.Cell{num(2)}}}})
	is(t, `BEGIN { print sync() sync() }`, in, api.Result{Out: "11\n"})
}
