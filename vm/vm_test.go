package vm_test

import (
	"reflect"
	"slices"
	"strings"
	"testing"

	"auklet/api"
	"auklet/compile"
	"auklet/resolve"
	"auklet/vm"
)

// bare is a result in which what is empty is nil.
func bare(r api.Result) api.Result {
	if len(r.Files) == 0 {
		r.Files = nil
	}
	var kept []api.Array
	for _, x := range r.Kept {
		if len(x.Keys) == 0 {
			x.Keys = nil
		}
		if len(x.Cells) == 0 {
			x.Cells = nil
		}
		kept = append(kept, x)
	}
	r.Kept = kept
	return r
}

// same holds two results against one another.
func same(t *testing.T, s string, got, want api.Result) {
	t.Helper()
	if !reflect.DeepEqual(bare(got), bare(want)) {
		t.Fatalf("%s\n%+v\nnot\n%+v", s, got, want)
	}
}

// image is a program's code.
func image(t *testing.T, s string) *compile.Image {
	t.Helper()
	p, at, e := compile.Of(s)
	if e != api.OK {
		t.Fatalf("%s: %d, %v", s, at, e)
	}
	return p
}

// is holds what a program tells against what it is to tell, and against what its tree says.
func is(t *testing.T, s string, in api.Input, want api.Result) {
	t.Helper()
	got, at, e := vm.Text(s, in)
	if at != 0 || e != api.OK || !reflect.DeepEqual(bare(got), bare(want)) {
		t.Errorf("%s\n%d, %v, %+v\nnot\n%+v", s, at, e, got, want)
	}
	same(t, s, vm.Run(image(t, s), in), got)
	n, _, _, _ := resolve.Program(s)
	same(t, s, newWalk(n, in).run(), want)
}

// example is a program, its main input, what is printed, and the error that ends it.
type example struct {
	program, main, out string
	e                  api.Errno
}

// hold holds examples, each with steps enough.
func hold(t *testing.T, l ...example) {
	t.Helper()
	for _, x := range l {
		is(t, x.program, api.Input{Main: x.main, Fuel: 3000}, api.Result{Out: x.out, Err: x.e})
	}
}

// tells holds what BEGIN prints of expressions: each on a line, without what else a print writes.
func tells(t *testing.T, pairs ...string) {
	t.Helper()
	for i := 0; i < len(pairs); i += 2 {
		hold(t, example{"BEGIN { print (" + pairs[i] + ") }", "", pairs[i+1] + "\n", api.OK})
	}
}

// P18.1: what is no program is none; else Text tells what Run tells.
func TestText(t *testing.T) {
	in := api.Input{Main: "a 1\nb 2.5", Fuel: 100, Kept: []api.Array{{Name: "a", Keys: []string{"k"}, Cells: []api.Cell{num(1)}}}}
	for _, s := range []string{"{ print ) }", "{ @ }", "{ x ~ /y }", "{ print \"x", "{ x = x[1] }", "{ h(1) }", "BEGIN { next }", "persist a b", "{ x = 9223372036855 }", strings.Repeat(" ", 8001), strings.Repeat(";", 3000)} {
		_, want, wrong := compile.Of(s)
		if r, at, e := vm.Text(s, in); !reflect.DeepEqual(r, api.Result{}) || at != want || e != wrong || e == api.OK {
			t.Errorf("%.40s: %+v, %d, %v, not %d, %v", s, r, at, e, want, wrong)
		}
	}
	is(t, "{ s += $2 } END { print s }", in, api.Result{Out: "3.5\n"})
	is(t, "persist a; { s += $2 } END { print s; exit 2 }", in, api.Result{Out: "3.5\n", Status: 2, Kept: in.Kept})
	is(t, "", in, api.Result{})
	is(t, "function f() { }\n;", in, api.Result{})
}

// P18.1: of no program ErrArg, and nothing else.
func TestNone(t *testing.T) {
	in := api.Input{Main: "a", Fuel: 100, Kept: []api.Array{{Name: "a", Keys: []string{"k"}, Cells: []api.Cell{num(1)}}}}
	k := newShelf(nil)
	for i, r := range []api.Result{vm.Run(nil, in), vm.With(nil, in, nil), vm.With(nil, in, k), vm.Run(nil, api.Input{})} {
		if !reflect.DeepEqual(r, api.Result{Err: api.ErrArg}) || len(k.asked) > 0 {
			t.Errorf("%d: %+v", i, r)
		}
	}
}

// P18.1: kept arrays are the keeper's, by their names, also where they are handed on; others are not. In.Kept plays no part then, and Kept is empty.
func TestKeeper(t *testing.T) {
	s := `function set(x, k) { x[k] = "set"; return x[k] } persist a, b
BEGIN { c[1] = 2; print a["x"], a["y"] "|" b[1]; a["x"]++; set(b, 5); set(c, 6); set(l, 7); delete a["old"]; for (k in a) print k; print ("z" in a), ("x" in a); sync() ; split("p q", b); delete a; a["n"] = "" }`
	k := newShelf([]api.Array{{Name: "a", Keys: []string{"x", "old"}, Cells: []api.Cell{num(1), str("o")}}, {Name: "b", Keys: []string{"9"}, Cells: []api.Cell{str("nine")}}, {Name: "c", Keys: []string{"1"}, Cells: []api.Cell{str("c")}}})
	in := api.Input{Fuel: 100, Kept: []api.Array{{Name: "a", Keys: []string{"x"}, Cells: []api.Cell{str("no")}}}}
	same(t, s, vm.With(image(t, s), in, k), api.Result{Out: "1 |\nx\ny\n0 1\n"})
	if want := "a \"n\" 2 0 \"\"\nb \"1\" 2 0 \"p\" \"2\" 2 0 \"q\"\nc \"1\" 2 0 \"c\""; k.shown() != want {
		t.Errorf("%s\nnot\n%s", k.shown(), want)
	}
	if want := "a \"x\" 1 2000000 \"\" \"y\" 0 0 \"\"\nb \"1\" 0 0 \"\" \"5\" 2 0 \"set\" \"9\" 2 0 \"nine\"\nc \"1\" 2 0 \"c\""; len(k.synced) != 1 || k.synced[0] != want {
		t.Errorf("%q\nnot\n%q", k.synced, want)
	}
	if slices.ContainsFunc(k.asked, func(s string) bool { return strings.Contains(s, " c") }) {
		t.Errorf("%q", k.asked)
	}
}

// P18.1: without a keeper With is Run, without Kept.
func TestNoKeeper(t *testing.T) {
	in := api.Input{Main: "1\n2\n", Fuel: 100, Kept: []api.Array{{Name: "a", Keys: []string{"k"}, Cells: []api.Cell{num(5)}}}}
	s := `persist a; { a["k"] += $1; print a["k"], sync() > "f"; print } END { exit 7 }`
	want := api.Result{Out: "1\n2\n", Files: []api.File{{Name: "f", S: "6 1\n8 1\n"}}, Status: 7}
	same(t, s, vm.With(image(t, s), in, nil), want)
	want.Kept = []api.Array{{Name: "a", Keys: []string{"k"}, Cells: []api.Cell{num(8)}}}
	is(t, s, in, want)
}

// P18.1, P18.8: what a keeper tells against something ends the run there.
func TestKeeperFails(t *testing.T) {
	for _, x := range []struct {
		s, asked, out string
	}{
		{`BEGIN { print 1; x = a["k"]; print 2 }`, "get a k", "1\n"},
		{`BEGIN { print 1; a["k"] = 3; print 2 }`, "put a k 3", "1\n"},
		{`BEGIN { print 1; x = a["k"]; print 2 }`, "put a k ", "1\n"},
		{`BEGIN { print 1; if ("k" in a) print 3; print 2 }`, "get a k", "1\n"},
		{`BEGIN { print 1; delete a["k"]; print 2 }`, "delete a k", "1\n"},
		{`BEGIN { print 1; delete a; print 2 }`, "clear a", "1\n"},
		{`BEGIN { print 1; for (k in a) print k; print 2 }`, "keys a", "1\n"},
		{`BEGIN { a[2]; a[1]; for (k in a) { print k; sync() }; print 2 }`, "sync", "1\n"},
		{`BEGIN { print 1; split("x y", a); print 2 }`, "clear a", "1\n"},
		{`BEGIN { print split("x y", a); print split("u v", a) }`, "put a 2 v", "2\n"},
		{`{ print; while ((getline a[NR]) > 0) print "more" } END { print 2 }`, "put a 2 z", "y\n"},
		{`function f(p) { print "f"; p[1] = "g"; print "h" } END { f(a) }`, "put a 1 g", "f\n"},
	} {
		for _, e := range []api.Errno{api.ErrFull, api.ErrPool, api.ErrDead, api.ErrCorrupt, api.ErrKey, -1, 12345} {
			k := failing{newShelf(nil), x.asked, e}
			same(t, x.s, vm.With(image(t, "persist a\n"+x.s), api.Input{Main: "y\nz\n", Fuel: 100}, k), api.Result{Out: x.out, Err: e})
			if last := k.asked[len(k.asked)-1]; last != x.asked {
				t.Errorf("%s: %q", x.s, k.asked)
			}
		}
	}
}

// failing is a shelf that tells an error where something is asked of it.
type failing struct {
	*shelf
	wrong string
	e     api.Errno
}

// told is what is told behind the last call.
func (k failing) told(e api.Errno) api.Errno {
	if k.asked[len(k.asked)-1] == k.wrong {
		return k.e
	}
	return e
}

func (k failing) Get(array, key string) (api.Cell, bool, api.Errno) {
	c, there, e := k.shelf.Get(array, key)
	return c, there, k.told(e)
}

func (k failing) Put(array, key string, c api.Cell) api.Errno {
	return k.told(k.shelf.Put(array, key, c))
}

func (k failing) Delete(array, key string) api.Errno { return k.told(k.shelf.Delete(array, key)) }

func (k failing) Clear(array string) api.Errno { return k.told(k.shelf.Clear(array)) }

func (k failing) Keys(array string) ([]string, api.Errno) {
	l, e := k.shelf.Keys(array)
	return l, k.told(e)
}

func (k failing) Sync() api.Errno { return k.told(k.shelf.Sync()) }

// P18.2: what variables have at first, and what kinds these are.
func TestVariablesAtFirst(t *testing.T) {
	tells(t, "NR", "0", "NF", "0", "RSTART", "0", "RLENGTH", "-1", `"<" FS OFS RS ORS SUBSEP ">"`, "<  \n\n\x1c>", `"<" x y $0 $1 ">"`, "<>",
		// Nothing is as 0 and as the empty text; a Number is not.
		`x == 0`, "1", `x == ""`, "1", `NR == ""`, "0", `RSTART == ""`, "0", `NF == ""`, "0", `NR == 0`, "1", `RLENGTH == -1`, "1", `$0 == ""`, "1", `$1 == 0`, "1", `$0 == 0`, "0",
		`length(SUBSEP) length(FS) length(ORS)`, "111", `FS == " "`, "1")
	hold(t, example{"function f(a, b) { print a \"|\"; for (k in b) print k; b[1] = 2; a = 3; print x } BEGIN { x = 1; f(); f(2) }", "", "|\n1\n2|\n1\n", api.OK})
}

// P18.2: kept arrays have at first what in.Kept says, as far as that can be; in the end all are told, in the order of the table, with rising keys.
func TestKeptAtFirst(t *testing.T) {
	long := strings.Repeat("k", 200)
	in := api.Input{Fuel: 100, Kept: []api.Array{
		{Name: "b", Keys: []string{"1", long, long + "k", ""}, Cells: []api.Cell{num(1), str("long"), str("longer"), {}}},
		{Name: "other", Keys: []string{"1"}, Cells: []api.Cell{num(1)}},
		{Name: "a", Keys: []string{"x", "y", "z"}, Cells: []api.Cell{num(1), num(2)}},
		{Name: "b", Keys: []string{"10", "9", "1", "9"}, Cells: []api.Cell{num(10), str("nine"), str("one"), {K: api.Looks, N: 9000000, S: " 9"}, num(5)}},
		{Name: "b", Keys: []string{"p", "q", "r", "s", "t", "1"}, Cells: []api.Cell{{K: api.Number, S: "p"}, {K: api.Text, N: 1}, {K: api.Looks, N: 1, S: "x"}, {N: 1}, {K: 4}, {K: -1}}},
		{Name: "plain", Keys: []string{"1"}, Cells: []api.Cell{num(1)}},
	}}
	b := api.Array{Name: "b", Keys: []string{"", "1", "10", "9", long}, Cells: []api.Cell{{}, str("one"), num(10), {K: api.Looks, N: 9000000, S: " 9"}, str("long")}}
	a := api.Array{Name: "a", Keys: []string{"x", "y"}, Cells: []api.Cell{num(1), num(2)}}
	is(t, "persist b, none; persist a", in, api.Result{Kept: []api.Array{b, {Name: "none"}, a}})
	is(t, `BEGIN { for (k in b) print k; for (k in plain) print "no" } persist a; function f() { b[1] }`, in, api.Result{Kept: []api.Array{a}})
	is(t, `BEGIN { for (k in b) if (length(k) < 9) print k ":" b[k] } persist b`, in, api.Result{Out: ":\n1:one\n10:10\n9: 9\n", Kept: []api.Array{b}})
	is(t, `persist a; BEGIN { a["w"] = "n" > "f"; a["é"]; a["\xff"] = -1.5; delete a["x"]; a["10"] = a["9"] = 1; print 1/0 }`, in,
		api.Result{Err: api.ErrZero, Kept: []api.Array{{Name: "a", Keys: []string{"10", "9", "\\xff", "w", "y", "é"}, Cells: []api.Cell{num(1), num(1), {K: api.Number, N: -1500000}, num(1), num(2), {}}}}})
}

// P18.2: what is handed in is not changed, and not told again.
func TestInputStays(t *testing.T) {
	cells := []api.Cell{num(1), num(2), num(3)}
	in := api.Input{Main: "a", Fuel: 100, Files: []api.File{{Name: "f", S: "x"}, {Name: "g"}}[:1], Kept: []api.Array{{Name: "a", Keys: []string{"z", "y", "x"}[:2], Cells: cells[:2]}}}
	p := image(t, `persist a; { a["z"] = 5; a["w"] = 6; print > "f"; print >> "f" }`)
	r := vm.Run(p, in)
	r.Kept[0].Cells[0], r.Kept[0].Keys[0], r.Files[0].S = num(9), "q", "r"
	if !slices.Equal(cells, []api.Cell{num(1), num(2), num(3)}) || !slices.Equal(in.Kept[0].Keys[:3], []string{"z", "y", "x"}) || !slices.Equal(in.Files[:2], []api.File{{Name: "f", S: "x"}, {Name: "g"}}) {
		t.Errorf("%+v", in)
	}
	same(t, "again", vm.Run(p, in), api.Result{Files: []api.File{{Name: "f", S: "a\na\n"}}, Kept: []api.Array{{Name: "a", Keys: []string{"w", "y", "z"}, Cells: []api.Cell{num(6), num(2), num(5)}}}})
}

// P18.2: BEGIN, the records if there is anything for them, END; exit ends a part, an error all.
func TestParts(t *testing.T) {
	hold(t,
		example{`END { print "e1" } { print "r" $0 } BEGIN { print "b1" } END { print "e2" } NR == 2 { print "two" } BEGIN { print "b2" }`, "x\ny", "b1\nb2\nrx\nry\ntwo\ne1\ne2\n", api.OK},
		example{`BEGIN { print NR } function f() { }`, "a\nb", "0\n", api.OK},
		example{`END { print NR, $0, NF }`, "a\nb c\n", "2 b c 2\n", api.OK},
		example{`END { print NR }`, "", "0\n", api.OK},
		example{`{ print }`, "", "", api.OK},
		example{`0`, "a\nb", "", api.OK},
		example{`1, 0`, "a\nb", "a\nb\n", api.OK},
		example{`BEGIN { print 1; exit; print 2 } BEGIN { print 3 } { print 4 } END { print 5, NR }`, "a", "1\n5 0\n", api.OK},
		example{`{ print; exit } { print "no" } END { print "end", NR; exit; print "no" } END { print "no" }`, "a\nb", "a\nend 1\n", api.OK},
		example{`function f() { g(); print "no" } function g() { for (k in a) { while (1) exit } } BEGIN { a[1]; a[2]; x = 5 f() ; print "no" } END { f() } END { print "no" }`, "a", "", api.OK},
		example{`BEGIN { print 1; x = 1 / 0; print 2 } BEGIN { print 3 } { print 4 } END { print 5 }`, "a", "1\n", api.ErrZero},
		example{`{ print; $101 } { print "no" } END { print "no" }`, "a\nb", "a\n", api.ErrField},
		example{`END { print 1 % 0 } END { print 2 }`, "a\nb", "", api.ErrZero},
		// Where an exit, or a next, leaves loops and sums, nothing is left of them.
		example{`{ for (k in a) for (j in a) if (NR < 4) next; a[NR]; print (2 + f(NR)) } function f(x) { if (x > 3) exit; return x } END { print 7 * f(2); for (k in a) print k }`, "a\nb\nc\nd\ne", "3\n14\n1\n4\n", api.OK})
}

// P18.2: the record is counted by code.Two, and taken by FS; RS says where it ends.
func TestRecords(t *testing.T) {
	hold(t,
		example{`{ print NR, NF, $1, $NF }`, "a b c\n\n  d\te  \nf", "1 3 a c\n2 0  \n3 2 d e\n4 1 f f\n", api.OK},
		example{`BEGIN { FS = ":"; RS = ";" } { print NF ":" $2 }`, "a:b;c;:d:e\n", "2:b\n1:\n3:d\n", api.OK},
		example{`{ FS = ":" } { print $1 } NR == 2 { RS = "" }`, "a b:c\nd e:f\ng h:i\nj:k\n\n\n\nl\n\n", "a\nd e\ng h\nl\n", api.OK},
		example{`BEGIN { RS = "[0-9]+" } { print NR "<" $0 ">" }`, "a1b22\nc", "1<a>\n2<b>\n3<\nc>\n", api.OK},
		example{`BEGIN { NR = 5 } { print NR } NR == 7 { NR = "9x" } NR == 8 { NR = x }`, "a\nb\nc\nd", "6\n7\n10\n11\n", api.OK},
		example{`{ NR = "x" } END { print NR }`, "a\nb", "x\n", api.OK},
		example{`BEGIN { NR = 9223372036853.9 } { print NR }`, "a\nb", "", api.ErrOver},
		example{`BEGIN { NR = 9223372036853.5 } { print NR }`, "a\nb", "9223372036854.5\n", api.ErrOver},
		example{`BEGIN { NR = "99999999999999" } { print NR } END { print 1 }`, "a\nb", "", api.ErrOver},
		example{`BEGIN { RS = "a("; print 1 } { print } END { print 2 }`, "a", "1\n", api.ErrShort},
		example{`BEGIN { RS = "a(" } { print } END { print 2 }`, "", "2\n", api.OK},
		example{`BEGIN { FS = "a)" } { print } END { print 2 }`, "a", "", api.ErrForm},
		example{`{ print; FS = "\\" }`, "a\nb", "a\n", api.ErrShort},
		example{`BEGIN { FS = "" } { print NF }`, strings.Repeat("a", 100) + "\n" + strings.Repeat("é", 101), "100\n", api.ErrLong},
		example{`{ print NF }`, strings.Repeat("a ", 100) + "\n" + strings.Repeat("a ", 101), "100\n", api.ErrLong})
}

// P18.2: the status is 0, or what the last exit said that said one; it stands also where an error ends the run.
func TestStatus(t *testing.T) {
	for _, x := range []struct {
		s      string
		status int
		e      api.Errno
	}{
		{"BEGIN { }", 0, 0}, {"BEGIN { exit }", 0, 0}, {"BEGIN { exit 3 }", 3, 0}, {"BEGIN { exit 3 } END { exit }", 3, 0}, {"BEGIN { exit 3 } END { exit 4 }", 4, 0}, {"BEGIN { exit 3 } END { exit 0 }", 0, 0}, {"{ exit NR } END { }", 1, 0},
		{"BEGIN { exit 255 }", 255, 0}, {"BEGIN { exit 256 }", 0, 0}, {"BEGIN { exit 257.999 }", 1, 0}, {"BEGIN { exit -1 }", 255, 0}, {"BEGIN { exit -0.5 }", 0, 0}, {"BEGIN { exit -256 }", 0, 0}, {"BEGIN { exit -257 }", 255, 0}, {"BEGIN { exit 9223372036854.775807 }", 9223372036854 % 256, 0},
		{"BEGIN { exit \"12x\" }", 12, 0}, {"BEGIN { exit \"x\" }", 0, 0}, {"BEGIN { exit x }", 0, 0}, {"BEGIN { exit \"-3\" }", 253, 0}, {"{ exit $1 }", 17, 0},
		{"BEGIN { exit 5 } END { x = 1 / 0 }", 5, api.ErrZero}, {"BEGIN { exit \"99999999999999\" } END { exit 1 }", 0, api.ErrOver}, {"BEGIN { exit 5 } END { exit 1 / 0 }", 5, api.ErrZero}, {"BEGIN { exit 5 } END { while (1) ; }", 5, api.ErrFuel},
	} {
		is(t, x.s, api.Input{Main: "17\n18", Fuel: 100}, api.Result{Status: x.status, Err: x.e})
	}
}

// P18.2: none below 0 are no steps, and more than there may be are as many as may be.
func TestFuelBounds(t *testing.T) {
	s := "persist a; BEGIN { while (1) a[1]++ }"
	p := image(t, s)
	for fuel, want := range map[int]int{3: 1, 1000: 998, 1 << 20: 1<<20 - 2, 1<<20 + 1: 1<<20 - 2, 1 << 40: 1<<20 - 2, 1<<63 - 1: 1<<20 - 2} {
		same(t, s, vm.Run(p, api.Input{Fuel: fuel}), api.Result{Err: api.ErrFuel, Kept: []api.Array{{Name: "a", Keys: []string{"1"}, Cells: []api.Cell{num(want)}}}})
	}
	for _, fuel := range []int{-1 << 63, -1 << 40, -5, -1, 0, 1, 2} {
		same(t, s, vm.Run(p, api.Input{Fuel: fuel}), api.Result{Err: api.ErrFuel, Kept: []api.Array{{Name: "a"}}})
		is(t, "function f() { }\npersist x", api.Input{Main: "a", Fuel: fuel}, api.Result{Kept: []api.Array{{Name: "x"}}})
		is(t, "END { print }", api.Input{Fuel: min(fuel, 0)}, api.Result{Err: api.ErrFuel})
		is(t, "{ print }", api.Input{Fuel: fuel}, api.Result{})
	}
}

// Also of trees that no text has, and of code that no call made, runs end, and none panics.
func TestAnyTree(t *testing.T) {
	m := newMaker(1802)
	if r := vm.Run(&compile.Image{}, m.input()); r.Err != api.ErrArg {
		t.Errorf("%+v", r)
	}
	made := 0
	for range 8000 {
		_, n, _ := m.program(t)
		for range 1 + m.pick(3) {
			m.spoil(&n)
		}
		p, _, e := compile.New(n)
		if e != api.OK {
			continue
		}
		made++
		vm.Run(p, m.input())
		vm.With(p, m.input(), newShelf(nil))
	}
	if made < 2000 {
		t.Error(made)
	}
}

// Of any bytes as a program there is a result, or an error: spoiled programs tell what their trees say.
func TestAnyBytes(t *testing.T) {
	m := newMaker(1803)
	ran := 0
	for range 6000 {
		s, _, _ := m.program(t)
		for range 1 + m.pick(3) {
			at, n := m.pick(len(s)), m.pick(4)
			s = s[:at] + []string{"", "", "x", "1", ";", "\n", "(", "\"", "\xff", "/", "}", "=", "$", "!", "a[1]"}[m.pick(15)] + s[min(len(s), at+n):]
		}
		in := m.input()
		r, at, e := vm.Text(s, in)
		n, _, place, wrong := resolve.Program(s)
		if at != place || e != wrong {
			t.Fatalf("%q: %d, %v, not %d, %v", s, at, e, place, wrong)
		}
		if e == api.OK {
			ran++
			same(t, s, r, newWalk(n, in).run())
		} else {
			same(t, s, r, api.Result{})
		}
	}
	if ran < 500 {
		t.Error(ran)
	}
}

// spoil changes something in a tree.
func (m maker) spoil(n *api.Node) {
	for len(n.L) > 0 && m.pick(6) > 0 {
		n.L = slices.Clone(n.L)
		n = &n.L[m.pick(len(n.L))]
	}
	switch m.pick(5) {
	case 0:
		n.K = m.pick(44) - 1
	case 1:
		n.S = []string{"", ">", "=", "x", "++", "v", "111", "11", "length", "sub", "a", "1"}[m.pick(12)]
	case 2:
		n.L = n.L[:m.pick(len(n.L)+1)]
	case 3:
		n.L = append(slices.Clone(n.L), api.Node{K: m.pick(42), S: "x"})
	case 4:
		n.L, n.P = nil, []string{"x", "a", "b"}[:m.pick(4)]
	}
}
