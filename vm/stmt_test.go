package vm_test

import (
	"strings"
	"testing"

	"auklet/api"
	"auklet/compile"
	"auklet/vm"
)

// P18.3: what counts a step: statements, calls, records that are taken by themselves, parts of a split; and nothing else. One step less, and ErrFuel ends the run.
func TestWhatCounts(t *testing.T) {
	for _, x := range []struct {
		s, main string
		steps   int
	}{
		{"function f() { x; y }", "a\nb", 0},
		{"BEGIN { }", "a\nb", 1},
		{"BEGIN { } BEGIN { }", "", 2},
		{"BEGIN { ; }", "", 2},
		{"BEGIN { { { } } }", "", 3},
		{"BEGIN { x = y = 1 + 2 * length(\"a\" \"b\"); print x; printf \"%d\", x }", "", 4},
		{"END { }", "", 1},
		{"END { }", "a\nb\nc", 4},
		{"{ }", "a\nb\nc", 6},
		{"0", "a\nb\nc", 3},
		{"1", "a\nb\nc", 6},
		{"{ print }", "a\nb", 6},
		{"NR == 2", "a\nb\nc", 4},
		{"NR == 2 { print }", "a\nb\nc", 5},
		{"NR == 2, NR == 3", "a\nb\nc\nd", 6},
		{"NR == 2, NR == 3 { }", "a\nb\nc\nd", 6},
		{"NR == 2, 0\n1 { next }\n1", "a\nb\nc", 3 + 2 + 6},
		{"BEGIN { if (0) x }", "", 2},
		{"BEGIN { if (1) x; else { y; y } }", "", 3},
		{"BEGIN { if (0) x; else { y; y } }", "", 5},
		{"BEGIN { while (i++ < 3) x }", "", 5},
		{"BEGIN { while (i++ < 3) { x } }", "", 8},
		{"BEGIN { do x; while (i++ < 3) }", "", 6},
		{"BEGIN { for (;;) break }", "", 3},
		{"BEGIN { for (i = 0; i < 3; i++) ; }", "", 2 + 1 + 3 + 3},
		{"BEGIN { for (; i < 3; i++) { continue; x } }", "", 2 + 3*3},
		{"BEGIN { for (i = 0; i < 3;) print i++ }", "", 2 + 1 + 3},
		{"BEGIN { a[1]; a[2]; for (k in a) x }", "", 3 + 1 + 2},
		{"BEGIN { for (k in a) x }", "", 2},
		{"BEGIN { delete a; delete a[1]; exit }", "", 4},
		{"function f() { }\nBEGIN { f() }", "", 4},
		{"function f(x) { return x }\nBEGIN { y = f(1) + f(f(2)) }", "", 2 + 3*3},
		{"function f(n) { if (n) return f(n - 1) }\nBEGIN { f(2) }", "", 2 + 3*3 + 2},
		{"BEGIN { split(\"a b c\", a) }", "", 5},
		{"BEGIN { split(\"a,b\", a, /,/); split(\"abcd\", a, \"\"); split(\"a--b\", a, \"--\") }", "", 4 + 2 + 4 + 2},
		{"BEGIN { split(\"\", a) }", "", 2},
		{"BEGIN { sync() ; x = match(\"ab\", /b/) + gsub(/a/, \"b\") + index(x, y) }", "", 3},
		{"BEGIN { getline; getline x; getline < \"f\"; while ((getline) > 0) ; }", "a\nb\nc\nd", 7},
		{"BEGIN { getline } { }", "a\nb\nc", 2 + 4},
		{"{ getline; getline y } END { }", "a\nb\nc\nd", 2*(1+3) + 1},
		{"{ next; x }", "a\nb", 6},
		{"{ exit; x } END { }", "a\nb", 4},
	} {
		p := image(t, x.s)
		want := vm.Run(p, api.Input{Main: x.main, Fuel: 1000})
		if want.Err != api.OK {
			t.Errorf("%s: %v", x.s, want.Err)
		}
		is(t, x.s, api.Input{Main: x.main, Fuel: x.steps}, want)
		for fuel := range x.steps {
			r := vm.Run(p, api.Input{Main: x.main, Fuel: fuel})
			if r.Err != api.ErrFuel || !strings.HasPrefix(want.Out, r.Out) {
				t.Errorf("%s with %d steps of %d: %+v", x.s, fuel, x.steps, r)
			}
		}
	}
}

// P18.3: where the steps end, the run does: what was done ahead of it stands.
func TestWhereStepsEnd(t *testing.T) {
	for _, x := range []struct {
		s, main, out string
		fuel         int
		kept         []api.Array
	}{
		{"{ print } END { print \"end\" }", "a\nb\nc", "a\nb\n", 6, nil},
		{"{ print } END { print \"end\" }", "a\nb\nc", "a\nb\n", 7, nil},
		{"{ print } END { print \"end\" }", "a\nb\nc", "a\nb\nc\n", 9, nil},
		{"1", "a\nb\nc", "a\n", 3, nil},
		{"persist a; BEGIN { split(\"x y z\", a) }", "", "", 1, []api.Array{{Name: "a"}}},
		{"persist a; BEGIN { a[9]; split(\"x y z\", a) }", "", "", 2, []api.Array{{Name: "a", Keys: []string{"9"}, Cells: []api.Cell{{}}}}},
		{"persist a; BEGIN { a[9]; split(\"x y z\", a) }", "", "", 3, []api.Array{{Name: "a"}}},
		{"persist a; BEGIN { a[9]; split(\"x y z\", a) }", "", "", 5, []api.Array{{Name: "a", Keys: []string{"1", "2"}, Cells: []api.Cell{str("x"), str("y")}}}},
		{"function f(x) { print \"in\" }\nBEGIN { f(print_()) }\nfunction print_() { print \"part\" }", "", "part\n", 5, nil},
		{"function f(x) { print \"in\" }\nBEGIN { f(print_()) }\nfunction print_() { print \"part\" }", "", "part\nin\n", 8, nil},
	} {
		in := api.Input{Main: x.main, Fuel: x.fuel}
		e := api.ErrFuel
		if x.fuel == 8 {
			e = api.OK
		}
		is(t, x.s, in, api.Result{Out: x.out, Err: e, Kept: x.kept})
	}
	// The record is read, and its step counted, ahead of all else that may be wrong with it.
	is(t, "BEGIN { FS = \"a(\" } { }", api.Input{Main: "x", Fuel: 2}, api.Result{Err: api.ErrFuel})
	is(t, "BEGIN { FS = \"a(\" } { }", api.Input{Main: "x", Fuel: 3}, api.Result{Err: api.ErrShort})
	is(t, "BEGIN { RS = \"a(\" } { }", api.Input{Main: "x", Fuel: 2}, api.Result{Err: api.ErrShort})
	is(t, "BEGIN { NR = 9223372036854 } { }", api.Input{Main: "x", Fuel: 2}, api.Result{Err: api.ErrFuel})
	is(t, "BEGIN { NR = 9223372036854; FS = \"a(\" } { }", api.Input{Main: "x", Fuel: 4}, api.Result{Err: api.ErrOver})
	is(t, "BEGIN { while (getline > 0) n++; exit n }", api.Input{Main: "1\n2\n3", Fuel: 6}, api.Result{Status: 3})
}

// P18.4: rules, with and without patterns and blocks.
func TestRules(t *testing.T) {
	hold(t,
		example{`1; 0; "0"; ""; x; $2; 0.0; "a"; 1 { print "b" } 0 { print "no" }`, "a 0\nb 0.00x", "a 0\na 0\na 0\nb\nb 0.00x\nb 0.00x\nb 0.00x\nb 0.00x\nb\n", api.OK},
		example{`BEGIN { OFS = "-"; ORS = "|" } $1 = $1`, "a b\n0\n\n c ", "a-b|c|", api.OK},
		example{`/b/; $2 ~ /x/ { print "x:" $1 }`, "ab c\nc x\n", "ab c\nx:c\n", api.OK},
		example{`{ x++ } x == 2 { print x ":" $0 } { x++ }`, "a\nb\nc", "", api.OK},
		example{`{ x++ } x == 3 { print x ":" $0 } { x++ }`, "a\nb\nc", "3:b\n", api.OK},
		example{`{ $0 = "new" NR } 1`, "a\nb", "new1\nnew2\n", api.OK},
		example{`NR == 1 { next } { print } NR == 2 { next; print "no" } { print "last" }`, "a\nb\nc", "b\nc\nlast\n", api.OK},
		example{`1 / 0`, "", "", api.OK},
		example{`{ print } 1 / 0 { print "no" }`, "a\nb", "a\n", api.ErrZero})
}

// P18.4: ranges go from a record to a record, perhaps the same one, and in again.
func TestRanges(t *testing.T) {
	main := "a\nb\nc\nd\nb\ne\n"
	hold(t,
		example{`/b/, /d/`, main, "b\nc\nd\nb\ne\n", api.OK},
		example{`/b/, /d/ { print NR }`, main, "2\n3\n4\n5\n6\n", api.OK},
		example{`/b/, /b/ { print NR }`, main, "2\n5\n", api.OK},
		example{`/b/, 1 { print NR }`, main, "2\n5\n", api.OK},
		example{`1, 0 { print NR }`, main, "1\n2\n3\n4\n5\n6\n", api.OK},
		example{`0, 1`, main, "", api.OK},
		example{`/c/, /x/ { print NR } /b/, /c/ { print "-" NR }`, main, "-2\n3\n-3\n4\n5\n-5\n6\n-6\n", api.OK},
		// While it is in, the first one is not asked; while it is not, the second one is asked only where the first one is true.
		example{`/b/ && n++ < 5, /d/ && m++ < 5 { } END { print n, m }`, main, "2 1\n", api.OK},
		example{`++n == 2, ++m == 2 { print NR } END { print n, m }`, main, "2\n3\n5 2\n", api.OK},
		// The block is done also where next, or an assignment, changes what the range looks at; it is in also while next passes over it.
		example{`NR == 2 { next } /b/, /d/ { print NR }`, main, "5\n6\n", api.OK},
		example{`/b/, /d/ { $0 = "d"; print NR } /d/, 0 { print "x" NR }`, "a\nb\nc\n", "2\nx2\n3\nx3\n", api.OK},
		example{`/b/, /d/ { next } { print }`, main, "a\n", api.OK},
		example{`/b/, /d/ { if (NR == 3) exit; print } END { print NR }`, main, "b\n3\n", api.OK})
}

// P18.5: print, and where to.
func TestPrint(t *testing.T) {
	hold(t,
		example{`{ print; print $2, $1; print $2 $1; print "", x, 1.50, -0.5 }`, "a b", "a b\nb a\nba\n  1.5 -0.5\n", api.OK},
		example{`BEGIN { OFS = "-"; ORS = "|"; print; print 1, 2; print (1, 2); print("x"); print (1)(2) ; print 1 (2) }`, "", "|1-2|1-2|x|12|12|", api.OK},
		example{`BEGIN { OFS = 1; ORS = 2.5; print "a", "b" }`, "", "a1b2.5", api.OK},
		// OFS and ORS are as they are when all parts, and where to, are known.
		example{`BEGIN { print "a", (OFS = "+"), (ORS = "!") }`, "", "a+++!!", api.OK},
		example{`BEGIN { print "a", x++, x++ x; print x }`, "", "a 0 12\n2\n", api.OK},
		example{`{ print; $0 = "c  d"; print; $2 = "e"; print; print $0 "" }`, "a", "a\nc  d\nc e\nc e\n", api.OK},
		example{`BEGIN { printf "a"; printf "%s-%d|%5.2f%%", "x", 3.9, 2.005; printf("%c%c", "hello", 65) ; printf "\n%s%s" }`, "", "ax-3| 2.01%hA\n", api.OK},
		example{`BEGIN { ORS = "!"; OFS = "?"; printf "a", "b"; printf x; printf 1.5 }`, "", "a1.5", api.OK},
		example{`BEGIN { printf "a"; printf "%y" ; print "no" }`, "", "a", api.ErrFormat},
		example{`BEGIN { printf "%d", "99999999999999" ; print "no" }`, "", "", api.ErrOver})
	files := func(s string, want ...api.File) {
		t.Helper()
		is(t, s, api.Input{Fuel: 100, Files: []api.File{{Name: "in", S: "old\n"}, {Name: "in", S: "no"}}}, api.Result{Files: want})
	}
	files(`BEGIN { print "a", "b" > "f"; print > "g"; printf "%d;", 3 > "f"; print "c" >> "f" }`, api.File{Name: "f", S: "a b\n3;c\n"}, api.File{Name: "g", S: "\n"})
	files(`BEGIN { print "a" > "in" ".x"; print "b" >> ("i" "n"); print 1, 2 > 3.50 }`, api.File{Name: "in.x", S: "a\n"}, api.File{Name: "in", S: "old\nb\n"}, api.File{Name: "3.5", S: "1 2\n"})
	files(`BEGIN { print "a" > "in"; print "b" >> "in"; print (1, 2) > "in"; printf("%s", 3) >> "in" }`, api.File{Name: "in", S: "a\nb\n1 2\n3"})
	files(`BEGIN { ORS = ""; OFS = "-"; print i++, i++ > "f" i++; print i++, i++ >> "f" i++; print > "e" }`, api.File{Name: "f2", S: "0-1"}, api.File{Name: "f5", S: "3-4"}, api.File{Name: "e"})
	files(`BEGIN { printf "%s", i++ > "f" i++; print (OFS = "."), 1 > (ORS = OFS) }`, api.File{Name: "f1", S: "0"}, api.File{Name: ".", S: "..1."})
}

// P18.5, P18.8: what can't be written ends the run, and was not written.
func TestNotPrinted(t *testing.T) {
	hold(t,
		example{`BEGIN { print 1; print 2 > ""; print 3 }`, "", "1\n", api.ErrArg},
		example{`BEGIN { print 1; print 2 > x; print 3 }`, "", "1\n", api.ErrArg},
		example{`BEGIN { print 1; printf "%y" > ""; print 3 }`, "", "1\n", api.ErrFormat},
		example{`BEGIN { print 1; printf 1 / 0 > "f"; print 3 }`, "", "1\n", api.ErrZero},
		example{`BEGIN { print 1; print 1 > (1 / 0); print 3 }`, "", "1\n", api.ErrZero})
	is(t, `BEGIN { for (i = 1; i <= 9; i++) print i > "f" i }`, api.Input{Fuel: 100}, api.Result{Err: api.ErrFull, Files: []api.File{{Name: "f1", S: "1\n"}, {Name: "f2", S: "2\n"}, {Name: "f3", S: "3\n"}, {Name: "f4", S: "4\n"}, {Name: "f5", S: "5\n"}, {Name: "f6", S: "6\n"}, {Name: "f7", S: "7\n"}, {Name: "f8", S: "8\n"}}})
	s := strings.Repeat("x", 65535)
	is(t, `{ print; ORS = ""; print x; print "y" } END { print "no" }`, api.Input{Main: s, Fuel: 100}, api.Result{Out: s + "\n", Err: api.ErrFull})
	is(t, `{ printf "%s", $0; printf "%s", "y"; printf "%s", "z" } END { print "no" }`, api.Input{Main: s, Fuel: 100}, api.Result{Out: s + "y", Err: api.ErrFull})
	is(t, `{ printf "%s%s", $0, "yz"; print "no" }`, api.Input{Main: s, Fuel: 100}, api.Result{Err: api.ErrLong})
}

// P18.5: loops, and what leaves them or goes on with them.
func TestLoops(t *testing.T) {
	hold(t,
		example{`BEGIN { if (1) print "a"; else print "b"; if (0) print "c"; if ("") print "d"; else if ("0") print "e"; else print "f" }`, "", "a\ne\n", api.OK},
		example{`BEGIN { while (i < 3) print i++; while (0) print "no"; while (i) i--; print i }`, "", "0\n1\n2\n0\n", api.OK},
		example{`BEGIN { do print i++; while (i < 2); do { print "once" } while (0) ; print i }`, "", "0\n1\nonce\n2\n", api.OK},
		example{`BEGIN { for (i = 0; i < 3; i++) print i; print i; for (; i;) i--; print i; for (i = 5; 0; i++) print "no"; print i }`, "", "0\n1\n2\n3\n0\n5\n", api.OK},
		example{`BEGIN { while (1) { if (i++ == 3) break; if (i == 2) continue; print i } print "end", i }`, "", "1\n3\nend 4\n", api.OK},
		example{`BEGIN { do { if (i++ == 3) break; if (i == 2) continue; print i } while (i < 9) ; print "end", i; do { i++; continue; print "no" } while (i < 7) ; print i }`, "", "1\n3\nend 4\n7\n", api.OK},
		example{`BEGIN { for (i = 0; i < 9; i++) { if (i == 3) break; if (i == 1) continue; print i } print "end", i }`, "", "0\n2\nend 3\n", api.OK},
		example{`BEGIN { for (;;) { for (;;) { if (j++ > 2) break; print "j", j } if (i++) break; print "i", i; j = 2 } print "end", i, j }`, "", "j 1\nj 2\nj 3\ni 1\nj 3\nend 2 4\n", api.OK},
		example{`BEGIN { for (continue; i < 2; i++) print i; for (break; 1; i = 9) print "no"; print i }`, "", "\n1\n2\n", api.OK},
		example{`BEGIN { for (; i < 3; continue) print i++; for (;; break) print i++; print i }`, "", "0\n1\n2\n3\n4\n", api.OK},
		example{`BEGIN { for (print "first"; i < 2; print "then" i) { i++; print "do" } for (delete a; !(1 in a); a[1]) print "once" }`, "", "first\ndo\nthen1\ndo\nthen2\nonce\n", api.OK},
		example{`function f() { for (;; ) { while (1) return "r"; } } BEGIN { while (i++ < 2) print f() }`, "", "r\nr\n", api.OK},
		example{`{ for (;;) { while (1) next } } END { print NR }`, "a\nb", "2\n", api.OK},
		example{`function f(n) { for (k in a) { if (k == n) return "found " k } return "none" } BEGIN { a[1]; a[2]; a[3]; for (j in a) print f(j), f("x") }`, "", "found 1 none\nfound 2 none\nfound 3 none\n", api.OK})
}

// P18.5, P18.11: for goes through the keys that were there as it began, each once, rising, as Texts.
func TestEach(t *testing.T) {
	hold(t,
		example{`BEGIN { a[10]; a[9]; a["b"]; a["B"]; a[""]; a["é"]; a["a", 1]; a[-1]; a[1.50]; for (k in a) print "<" k ">" }`, "", "<>\n<-1>\n<1.5>\n<10>\n<9>\n<B>\n<a\x1c1>\n<b>\n<é>\n", api.OK},
		example{`BEGIN { for (k in a) print "no"; print "<" k ">"; a["x"]; for (k in a) ; print k; delete a; for (k in a) print "no"; print k }`, "", "<>\nx\nx\n", api.OK},
		example{`BEGIN { a[1]; a[2]; a[3]; for (k in a) { print k; delete a; a[9]; a["x" k] } for (k in a) print "-" k }`, "", "1\n2\n3\n-9\n-x3\n", api.OK},
		example{`BEGIN { a[1]; a[2]; for (k in a) for (k in a) print k; print k }`, "", "1\n2\n1\n2\n2\n", api.OK},
		example{`BEGIN { a[1]; a[2]; for (i in a) { for (j in a) { if (j == 2) break; print i, j } } for (i in a) { if (i == 1) continue; print i } for (i in a) break; print i }`, "", "1 1\n2 1\n2\n1\n", api.OK},
		example{`BEGIN { a[10]; a[9]; for (k in a) print (k < 10), (k == 10), (k + 0 < 10) }`, "", "0 1 0\n0 0 1\n", api.OK},
		example{`function f(p, k) { for (k in p) { p[k "x"]; r = r k ";" } return r } BEGIN { a["u"]; a["v"]; print f(a); print f(a); print "<" k ">" }`, "", "u;v;\nu;v;u;ux;v;vx;\n<>\n", api.OK},
		// What is set is set as any variable is.
		example{`{ b[2]; b["1x"]; for (NF in b) print NF, $0; for (NR in b) print NR; for (OFS in b) print 1, 2 }`, "a b c", "1 a\n2 a \n1x\n2\n11x2\n122\n", api.OK},
		example{`BEGIN { a[101]; print 1; for (NF in a) print "no" }`, "", "1\n", api.ErrField},
		example{`BEGIN { split("c b a", a); for (k in a) s = s k a[k]; print s; a[10] = "z"; a[0] = "y"; for (k in a) { s = s k; if (k == 0) split("", a) } print s }`, "", "1c2b3a\n1c2b3a011023\n", api.OK})
}

// P18.5: delete takes an element, or all.
func TestDelete(t *testing.T) {
	hold(t,
		example{`BEGIN { a[1]; a["x", 2]; a[3]; delete a[1]; delete a["x", 2]; delete a["none"]; for (k in a) print k; delete a; print (3 in a); delete a; a[4]; for (k in a) print k }`, "", "3\n0\n4\n", api.OK},
		example{`BEGIN { a[i++] = 5; delete a[i - 1]; print a[0] "|", i }`, "", "| 1\n", api.OK},
		example{`function f(p) { delete p[1]; p[5] } function g(p) { delete p } BEGIN { a[1]; a[2]; f(a); for (k in a) print k; g(a); for (k in a) print "no"; g(); f() }`, "", "2\n5\n", api.OK},
		example{`BEGIN { x = sprintf("%200s", "x"); delete a[x]; print 1; delete a[x, ""]; print 2 }`, "", "1\n", api.ErrKey})
}

// P18.11: for goes through just the keys that the array had, whatever is done within.
func TestEachOnce(t *testing.T) {
	m := newMaker(1811)
	for _, do := range []string{"", "delete a", "delete a[k]", "a[k k]", "a[\"\"] = k; delete a[1]", "split(\"x y z u v\", a)", "delete a[1]; for (j in a) delete a[j]", "sync()", "if (n++ > 2) continue", "f(a)"} {
		p, _, e := compile.Of("persist a\nfunction f(b, k) { for (k in b) b[k \"!\"]; for (k in b) delete b[k] }\nBEGIN { ORS = \";\"; for (k in a) { print k; " + do + " } }")
		if e != api.OK {
			t.Fatal(do, e)
		}
		for range 200 {
			a := elements{}
			for range m.pick(12) {
				a[[]string{"1", "10", "2", "x", "y", "", "é", "\xff", "\x00", "Z", "1x", "\n"}[m.pick(12)]] = num(1)
			}
			keys := sorted(a)
			kept := api.Array{Name: "a"}
			for i := range keys {
				kept.Keys, kept.Cells = append(kept.Keys, keys[len(keys)-1-i]), append(kept.Cells, num(i))
			}
			want := ""
			for _, key := range keys {
				want += key + ";"
			}
			in := api.Input{Fuel: 3000, Kept: []api.Array{kept}}
			if r := vm.Run(p, in); r.Out != want || r.Err != api.OK {
				t.Fatalf("%s: %q, %v, not %q", do, r.Out, r.Err, want)
			}
			if r := vm.With(p, in, newShelf(in.Kept)); r.Out != want || r.Err != api.OK {
				t.Fatalf("%s: with a keeper %q, %v, not %q", do, r.Out, r.Err, want)
			}
		}
	}
}
