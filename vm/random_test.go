package vm_test

import (
	"math/rand"
	"slices"
	"strconv"
	"strings"
	"testing"

	"auklet/api"
	"auklet/cell"
	"auklet/compile"
	"auklet/resolve"
	"auklet/samples"
	"auklet/vm"
)

// busy is a grammar of programs that have much to tell. A line with @ in it is there for each place in which a statement may stand: rules (R), BEGIN and END (B), functions (F), and loops there (with L behind, as & is).
const busy = `
ALL : persist a , b ; ITEMS FUNCS LAST | ITEMS FUNCS LAST | FUNCS persist b , q line ITEMS LAST
LAST : END { print "end" , x , y , p , NR , NF , $ 0 , $ 1 , RSTART , RLENGTH ; for ( x in a ) print x , a [ x ] ; for ( x in b ) print x , b [ x ] ; for ( x in q ) { print x , q [ x ] } }
FUNCS : function f( p , q ) { q [ p ] = p y ; BODYF } function g( q , p ) { BODYF ; q [ 1 ] = p ; return x } function h( ) { BODYF } function k( p , l ) { l [ p ] = x ; if ( p > 0 ) return k( p - 1 ) + length( l [ p ] ) ; BODYF ; for ( x in l ) return l [ x ] }
ITEMS : ITEM ITEM | ITEM ITEM ITEM | BEGIN { SPECIAL ; BODYB } ITEM ITEM
ITEM : { print x , NR ; BODYR } | BEGIN { BODYB } | END { BODYB } | EXPR line | EXPR { BODYR } | FLAT , FLAT line | NR == 1 , NR == 3 { BODYR } | PAT , EXPR { BODYR }
SPECIAL : FS = "" | FS = ":" | FS = "[:b]+" | FS = "b+c" | RS = "" | RS = ":" | RS = "[ab]\n" | RS = ";" | OFS = "-" | ORS = "|" | SUBSEP = ":" | NR = 7 | FS = "\\" | FS = LEAF | RS = LEAF | SUBSEP = LEAF
BODY@ : STMT@ | STMT@ STMT@ | STMT@ STMT@ STMT@
STMT@ : SIMPLE@ ; | SIMPLE@ line | SIMPLE@ ; | ; | { BODY@ } | if ( EXPR ) STMT@ | if ( EXPR ) STMT@ else STMT@ | if ( FLAT ) LEAVE@ ; | LOOP& | LOOP&
LOOP@ : for ( x = 0 ; x < 3 ; x ++ ) STMT@ | for ( x in ARRAY ) { BODY@ } | for ( y in ARRAY ) print x , y ; | while ( x ++ < 3 ) STMT@ | do STMT@ while ( y ++ < 2 ) ; | while ( ( getline PLACE < FILE ) > 0 ) STMT@ | for ( PART@ ; COND ; PART@ ) STMT@ | while ( EXPR ) STMT@ | do { BODY@ } while ( EXPR ) line | for ( NF in ARRAY ) STMT@
PART@ : none | SIMPLE@ | LEAVE@
LEAVER : next | exit LEAF
LEAVEB : exit | exit LEAF
LEAVEF : return | return EXPR | exit
LEAVERL : break | continue | next
LEAVEBL : break | continue
LEAVEFL : break | continue | return EXPR
COND : FLAT | EXPR | none
SIMPLE@ : DO | DO | DO | PLACE SETS EXPR | EXPR | print EXPR , PLACE | printf "%s-%d|\n" , EXPR , PLACE | print ( EXPR , EXPR ) > FILE | print EXPR >> FILE | printf( "%5.1f:%s" , EXPR , EXPR ) >> FILE | delete ARRAY [ EXPR , LEAF ]
DO : print x , y , $ 0 | print LEAF , PLACE | PLACE = LEAF | PLACE = LEAF | PLACE SETS LEAF | PLACE ++ | print $ 1 , NF , RSTART | print > FILE | delete ARRAY [ LEAF ] | delete ARRAY | print | printf "%s|" , PLACE | print x , y > FILE
EXPR : FLAT | FLAT | P TWO P | P && P | P || P | P question EXPR : EXPR | PLACE SETS EXPR | ( P in ARRAY ) | ( ( EXPR , EXPR ) in ARRAY ) | P MATCHES PAT | P P | ONE P | OWN | CALL | GET | $ P | ARRAY [ EXPR ] | ARRAY [ EXPR , LEAF ]
FLAT : LEAF | LEAF | PLACE = LEAF | PLACE ++ | -- PLACE | PLACE -- | ++ PLACE | LEAF TWO LEAF | LEAF LEAF | ONE LEAF | ( LEAF in ARRAY ) | LEAF MATCHES PAT | $ LEAF | GIVEN
P : LEAF | ( EXPR ) | ( EXPR ) | CALL | OWN | PLACE
TWO : + | - | * | / | % | < | <= | == | != | >=
ONE : ! | - | +
SETS : = | += | -= | *= | /= | %=
MATCHES : ~ | !~
LEAF : 0 | 1 | 2 | 3 | 10 | 2.5 | "a" | "b" | "ab" | "10" | "" | "a\tb:c" | "1e" | x | y | p | x | y | NR | NF | $ 0 | $ 1 | $ 2 | $ NF | a [ 1 ] | b [ x ]
PLACE : x | y | p | x | y | a [ 1 ] | a [ x ] | a [ y ] | b [ x , 1 ] | b [ y ++ ] | q [ p ] | $ 0 | $ 1 | $ 2 | $ 3 | $ NF | $ x | NF | NR | OFS | ORS | FS | RS | SUBSEP | RSTART | RLENGTH
ARRAY : a | b | q
PAT : /a/ | /a*/ | /^[ab]/ | /b+|c$/ | /[0-9]+/ | /x|/ | /[[:blank:]]/ | /./ | "a" | "[ab]" | "" | ":" | x | $ 1
FILE : "f" | "f" | "g" | "a" | "none" | LEAF
GIVEN : length | length( LEAF ) | substr( LEAF LEAF , LEAF ) | substr( $ 0 , LEAF , LEAF ) | index( $ 0 , LEAF ) | split( $ 0 , ARRAY ) | split( LEAF , ARRAY , PAT ) | sub( PAT , "<&>" ) | gsub( PAT , LEAF ) | sub( PAT , "<&>" , PLACE ) | gsub( PAT , "\\&&" , PLACE ) | match( $ 0 , PAT ) | match( LEAF LEAF , PAT ) | sprintf( "%d:%s" , LEAF , LEAF ) | tolower( LEAF ) | toupper( $ 0 ) | int( LEAF ) | sync( )
OWN : GIVEN | length( EXPR ) | substr( EXPR , LEAF , EXPR ) | index( EXPR , EXPR ) | split( EXPR , ARRAY , PAT ) | gsub( PAT , EXPR , PLACE ) | sub( EXPR , "<&>" , $ P ) | match( EXPR , PAT ) | sprintf( "%" LEAF , EXPR ) | sprintf( "%5.1f|%-3s%c" , EXPR , EXPR , LEAF ) | toupper( EXPR ) | int( EXPR )
CALL : h( ) | f( ) | f( P ) | f( P , ARRAY ) | f( EXPR , ARRAY ) | g( ARRAY ) | g( ARRAY , EXPR ) | g( ) | k( LEAF ) | k( EXPR )
GET : ( getline ) | ( getline PLACE ) | ( getline < FILE ) | ( getline PLACE < FILE ) | ( getline a [ EXPR ] < FILE )
`

// busyGrammar is that grammar, with its lines for each place.
func busyGrammar() *samples.Grammar {
	var all strings.Builder
	for _, line := range strings.Split(strings.TrimSpace(busy), "\n") {
		if !strings.Contains(line, "@") {
			all.WriteString(line + "\n")
			continue
		}
		for _, at := range []string{"R", "B", "F"} {
			all.WriteString(strings.NewReplacer("@", at, "&", at+"L").Replace(line) + "\n")
			all.WriteString(strings.NewReplacer("@", at+"L", "&", at+"L").Replace(line) + "\n")
		}
	}
	return samples.NewGrammar(all.String())
}

// maker makes random runs.
type maker struct {
	pick    func(n int) int
	grammar *samples.Grammar
}

func newMaker(seed int64) maker {
	return maker{rand.New(rand.NewSource(seed)).Intn, busyGrammar()}
}

// program is a random program, its tree and its code.
func (m maker) program(t *testing.T) (string, api.Node, *compile.Image) {
	t.Helper()
	for {
		s := m.grammar.Text(m.pick, "ALL", 4+m.pick(5))
		n, _, at, e := resolve.Program(s)
		if e == api.OK {
			p, _, _ := compile.Of(s)
			return s, n, p
		}
		if e != api.ErrLong {
			t.Fatalf("%q: %d, %v: %q", s, at, e, s[max(0, at-60):min(len(s), at+30)])
		}
	}
}

// text is a random text to be read.
func (m maker) text() string {
	var s strings.Builder
	for range m.pick(5) {
		for range m.pick(5) {
			s.WriteString([]string{"a", "b", "ab", "10", "2.5", ":", " ", "  ", "cab", "é", "\xff", "-3", ";", "\t", strings.Repeat("ab ", m.pick(40))}[m.pick(15)])
		}
		s.WriteString([]string{"\n", "\n", "\n\n", ";", ""}[m.pick(5)])
	}
	return s.String()
}

// input is a random input.
func (m maker) input() api.Input {
	in := api.Input{Main: m.text(), Fuel: 400}
	for _, name := range []string{"f", "g", "a", "10"}[:m.pick(5)] {
		in.Files = append(in.Files, api.File{Name: name, S: m.text()})
	}
	for _, name := range []string{"a", "b", "c", "a"}[:m.pick(5)] {
		x := api.Array{Name: name}
		for range m.pick(4) {
			key := []string{"1", "2", "a", "10", "", "x\x1cy"}[m.pick(6)]
			x.Keys, x.Cells = append(x.Keys, key), append(x.Cells, []api.Cell{{}, num(m.pick(4)), str("a b"), cell.Input(" 7"), {K: api.Number, S: "no"}}[m.pick(5)])
		}
		in.Kept = append(in.Kept, x)
	}
	return in
}

// P18.1 to P18.8: random programs tell what the tree says, node by node.
func TestAgainstTree(t *testing.T) {
	m := newMaker(1801)
	errors, printed := map[api.Errno]int{}, 0
	for range 8000 {
		s, n, p := m.program(t)
		for range 2 {
			in := m.input()
			want := newWalk(n, in).run()
			same(t, s, vm.Run(p, in), want)
			errors[want.Err]++
			printed += len(want.Out)
		}
	}
	if printed < 300000 {
		t.Errorf("only %d bytes", printed)
	}
	for _, e := range []api.Errno{api.OK, api.ErrFuel, api.ErrLong, api.ErrShort, api.ErrField, api.ErrArg, api.ErrZero, api.ErrCalls, api.ErrFormat} {
		if errors[e] < 20 {
			t.Errorf("%v: only %d", e, errors[e])
		}
	}
}

// P18.9, P18.3: with fewer steps than there are in the document's run ErrFuel ends it, having told a beginning; with as many, or more, it tells the same.
func TestSteps(t *testing.T) {
	m := newMaker(1809)
	for range 1500 {
		s, n, p := m.program(t)
		in := m.input()
		w := newWalk(n, in)
		want := w.run()
		if want.Err == api.ErrFuel {
			continue
		}
		used := in.Fuel - w.steps
		for _, fuel := range []int{used, used + 1, 2 * used, 5000, 1 << 20, 1 << 30} {
			in.Fuel = fuel
			same(t, s, vm.Run(p, in), want)
		}
		for range 4 {
			if used > 0 {
				in.Fuel = m.pick(used)
				r := vm.Run(p, in)
				if r.Err != api.ErrFuel || !strings.HasPrefix(want.Out, r.Out) {
					t.Fatalf("%s\nwith %d steps of %d: %v, %q, not a beginning of %q", s, in.Fuel, used, r.Err, r.Out, want.Out)
				}
				same(t, s, r, newWalk(n, in).run())
			}
		}
	}
}

// shelf keeps arrays, and what was asked of it.
type shelf struct {
	arrays map[string]elements
	asked  []string
	synced []string
	fails  int // with which call; below 0: with none
	e      api.Errno
}

func newShelf(l []api.Array) *shelf {
	s := &shelf{arrays: map[string]elements{}, fails: -1}
	for _, x := range l {
		for i, key := range x.Keys {
			s.of(x.Name)[key] = x.Cells[i]
		}
	}
	return s
}

// of is the array of a name.
func (s *shelf) of(name string) elements {
	if s.arrays[name] == nil {
		s.arrays[name] = elements{}
	}
	return s.arrays[name]
}

// ask notes a call, and tells whether it fails.
func (s *shelf) ask(words ...string) api.Errno {
	s.asked = append(s.asked, strings.Join(words, " "))
	if len(s.asked)-1 == s.fails {
		return s.e
	}
	return api.OK
}

func (s *shelf) Get(array, key string) (api.Cell, bool, api.Errno) {
	if e := s.ask("get", array, key); e != api.OK {
		return api.Cell{}, false, e
	}
	c, there := s.of(array)[key]
	return c, there, api.OK
}

func (s *shelf) Put(array, key string, c api.Cell) api.Errno {
	e := s.ask("put", array, key, cell.Str(c))
	if e == api.OK {
		s.of(array)[key] = c
	}
	return e
}

func (s *shelf) Delete(array, key string) api.Errno {
	e := s.ask("delete", array, key)
	if e == api.OK {
		delete(s.of(array), key)
	}
	return e
}

func (s *shelf) Clear(array string) api.Errno {
	e := s.ask("clear", array)
	if e == api.OK {
		clear(s.of(array))
	}
	return e
}

// Keys are told in no order, and some of them twice.
func (s *shelf) Keys(array string) ([]string, api.Errno) {
	if e := s.ask("keys", array); e != api.OK {
		return nil, e
	}
	l := sorted(s.of(array))
	slices.Reverse(l)
	return append(l, l[:len(l)/2]...), api.OK
}

func (s *shelf) Sync() api.Errno {
	e := s.ask("sync")
	if e == api.OK {
		s.synced = append(s.synced, s.shown())
	}
	return e
}

// shown is all that is kept as a text, but for arrays without anything.
func (s *shelf) shown() string {
	var l []api.Array
	for name, a := range s.arrays {
		x := api.Array{Name: name, Keys: sorted(a)}
		for _, key := range x.Keys {
			x.Cells = append(x.Cells, a[key])
		}
		l = append(l, x)
	}
	return shown(l)
}

// shown are arrays as a text, but for those without anything.
func shown(l []api.Array) string {
	var lines []string
	for _, x := range l {
		line := x.Name
		for i, key := range x.Keys {
			c := x.Cells[i]
			line += " " + strconv.Quote(key) + " " + strconv.Itoa(c.K) + " " + strconv.FormatInt(c.N, 10) + " " + strconv.Quote(c.S)
		}
		if len(x.Keys) > 0 {
			lines = append(lines, line)
		}
	}
	slices.Sort(lines)
	return strings.Join(lines, "\n")
}

// can are arrays without what can't be.
func can(l []api.Array) []api.Array {
	var all []api.Array
	for _, x := range l {
		y := api.Array{Name: x.Name}
		for i, c := range x.Cells {
			if cell.Can(c) {
				y.Keys, y.Cells = append(y.Keys, x.Keys[i]), append(y.Cells, c)
			}
		}
		all = append(all, y)
	}
	return all
}

// P18.1: With a keeper a program tells what it tells in memory, but Kept, and the keeper has what is kept, in the end and at each sync; nothing else is asked of it.
func TestAgainstKeeper(t *testing.T) {
	m := newMaker(1811)
	syncs, failed := 0, 0
	for range 6000 {
		s, n, p := m.program(t)
		in := m.input()
		w := newWalk(n, in)
		want := w.run()
		names := map[string]int{}
		for _, x := range want.Kept {
			names[x.Name] = 1
		}
		start := slices.DeleteFunc(can(in.Kept), func(x api.Array) bool { return names[x.Name] == 0 })
		k := newShelf(start)
		in.Kept = []api.Array{{Name: "a", Keys: []string{"no"}, Cells: []api.Cell{{}}}}
		got := vm.With(p, in, k)
		end := shown(want.Kept)
		want.Kept = nil
		same(t, s, got, want)
		if k.shown() != end || !slices.Equal(k.synced, w.synced) {
			t.Fatalf("%s\nkept: %s\nnot %s\nat syncs: %q\nnot %q", s, k.shown(), end, k.synced, w.synced)
		}
		syncs += len(k.synced)
		if len(k.asked) == 0 {
			continue
		}
		failed++
		again := newShelf(start)
		again.fails, again.e = m.pick(len(k.asked)), []api.Errno{api.ErrFull, api.ErrPool, api.ErrDead, api.ErrCorrupt, 77}[m.pick(5)]
		r := vm.With(p, in, again)
		if r.Err != again.e || len(again.asked) != again.fails+1 || !slices.Equal(again.asked, k.asked[:again.fails+1]) {
			t.Fatalf("%s\ncall %d fails: %v, %d calls, not %v", s, again.fails, r.Err, len(again.asked), again.e)
		}
		if !strings.HasPrefix(want.Out, r.Out) || len(r.Files) > len(want.Files) || r.Kept != nil {
			t.Fatalf("%s\ncall %d fails: %+v, not a beginning of %+v", s, again.fails, r, want)
		}
	}
	if syncs < 100 || failed < 1000 {
		t.Error(syncs, failed)
	}
}

// P18.10: without its persists a program tells the same, if nothing was kept.
func TestKeptOrNot(t *testing.T) {
	m := newMaker(1810)
	kept := 0
	for range 3000 {
		s, n, p := m.program(t)
		in := m.input()
		in.Kept = nil
		want := vm.Run(p, in)
		same(t, s, vm.With(p, in, newShelf(nil)), api.Result{Out: want.Out, Files: want.Files, Status: want.Status, Err: want.Err})
		n.L = slices.DeleteFunc(slices.Clone(n.L), func(n api.Node) bool { return n.K == api.IKeep })
		kept += len(want.Kept)
		want.Kept = nil
		bare, at, e := compile.New(n)
		if e != api.OK {
			t.Fatalf("%s: %d, %v", s, at, e)
		}
		same(t, s, vm.Run(bare, in), want)
	}
	if kept < 1000 {
		t.Error(kept)
	}
}
