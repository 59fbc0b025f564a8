package show_test

import (
	"math/rand"
	"strconv"
	"strings"
	"testing"

	"auklet/api"
	"auklet/dec"
	"auklet/lex"
	"auklet/samples"
	"auklet/show"
	"auklet/syntax"
)

// forms are the document's texts of nodes, kind by kind, as a second reckoning fills them in. Behind % stands: 0 to 2 which part's operand, a to c which part's text, A to D which part's statement; t, o, p the texts, the operands, the operands but the last, with commas between; l the statements; s the sign or name; n the number, q the text, r the pattern; N the names, with commas between; I with in between. (What hangs on more than the kind is told by formOf.)
const forms = `%n
%q
/%r/
%s
%s[%t]
$%0
%a %s= %1
%0 ? %1 : %2
%0 || %1
%0 && %1
(%t) in %s
%0 %s %1
%0 %s %1
%0 %1
%0 %s %1
%s%0
%a
%s(%t)
%s(%t)
getline
%a
print
printf
if (%a) %B
while (%a) %B
do %A while (%b)
for
for (%I) %A
{%l }
next
exit
return
break
continue
delete %s
BEGIN %A
END %A
%t
%a, %b
function %s(%N) %A
persist %N
`

// formOf is the form of n.
func formOf(n api.Node) string {
	form := strings.Split(forms, "\n")[n.K]
	switch many := len(n.L); n.K {
	case api.EAssign:
		if n.S == "=" {
			return "%a = %1"
		}
	case api.EIn:
		if many == 1 {
			return "%0 in %s"
		}
	case api.EStep:
		return strings.Replace(n.S, "x", form, 1)
	case api.EGet:
		return map[string]string{"": form, "v": form + " %a", "f": form + " < %0", "vf": form + " %a < %1"}[n.S]
	case api.SPrint, api.SFormat:
		return form + map[bool]string{true: " %o"}[many > 0 && n.S == ""] + map[bool]string{true: " %p"}[many > 1 && n.S != ""] + map[bool]string{true: " %s %z"}[n.S != ""]
	case api.SIf:
		return form + map[bool]string{true: " else %C"}[many == 3]
	case api.SFor:
		return map[string]string{"000": "for (; ; ) %A", "100": "for (%x; ; ) %B", "010": "for (; %a; ) %B", "001": "for (; ; %x) %B", "110": "for (%x; %b; ) %C", "101": "for (%x; ; %y) %C", "011": "for (; %a; %y) %C", "111": "for (%x; %b; %z) %D"}[n.S]
	case api.SExit, api.SReturn:
		return form + map[bool]string{true: " %a"}[many == 1]
	case api.SDelete:
		return form + map[bool]string{true: "[%t]"}[many > 0]
	case api.IRule:
		return map[string]string{"10": "%a", "01": "%A", "11": "%a %B"}[n.S]
	case api.IRange:
		return map[string]string{"0": form, "1": form + " %C"}[n.S]
	}
	return form
}

// second is the text of n by the forms; it may panic, if n is no tree.
func second(n api.Node) string {
	if n.K == api.Program {
		var s strings.Builder
		for _, item := range n.L {
			s.WriteString(second(item) + "\n")
		}
		return s.String()
	}
	var s strings.Builder
	pieces := strings.Split(formOf(n), "%")
	s.WriteString(pieces[0])
	for _, piece := range pieces[1:] {
		s.WriteString(filled(n, piece[0]) + piece[1:])
	}
	return s.String()
}

// filled is what stands in a form for the letter c.
func filled(n api.Node, c byte) string {
	switch {
	case '0' <= c && c <= '2':
		return bracketed(n.L[c-'0'])
	case 'a' <= c && c <= 'c':
		return second(n.L[c-'a'])
	case 'A' <= c && c <= 'D':
		return ended(n.L[c-'A'])
	}
	switch c {
	case 't', 'o', 'p', 'l':
		return all(n.L, c)
	case 'x', 'y':
		return second(n.L[c-'x'])
	case 'z':
		if n.K == api.SFor {
			return second(n.L[2])
		}
		return bracketed(n.L[len(n.L)-1])
	case 'n':
		return dec.Show(n.N)
	case 'q':
		return lex.Quote(n.S)
	case 'r':
		return strings.Join(strings.Split(n.S, "/"), `\/`)
	case 'N':
		return strings.Join(n.P, ", ")
	case 'I':
		return n.P[0] + " in " + n.P[1]
	}
	return n.S
}

// all are the parts of a form that go through all nodes.
func all(l []api.Node, c byte) string {
	s := ""
	if c == 'p' {
		l = l[:len(l)-1]
	}
	for i, n := range l {
		if i > 0 && c != 'l' {
			s += ", "
		}
		switch c {
		case 't':
			s += second(n)
		case 'l':
			s += " " + ended(n)
		default:
			s += bracketed(n)
		}
	}
	return s
}

// bracketed is an operand by the forms.
func bracketed(n api.Node) string {
	if n.K == api.ERegex || n.K > api.EField && n.K != api.ECall && n.K != api.EOwn {
		return "(" + second(n) + ")"
	}
	return second(n)
}

// ended is a statement by the forms.
func ended(n api.Node) string {
	switch n.K {
	case api.SIf, api.SWhile, api.SFor, api.SEach, api.SBlock:
		return second(n)
	}
	return second(n) + ";"
}

// told is all that n has but for places, as a text.
func told(n api.Node) string {
	s := strconv.Itoa(n.K) + strconv.Quote(n.S) + strconv.FormatInt(n.N, 10) + "<"
	for _, name := range n.P {
		s += strconv.Quote(name)
	}
	s += ">("
	for _, part := range n.L {
		s += told(part)
	}
	return s + ")"
}

// secondShow is the answer by the forms.
func secondShow(n api.Node, read func(s string) (api.Node, int, api.Errno)) (s string, e api.Errno) {
	defer func() {
		if recover() != nil {
			s, e = "", api.ErrArg
		}
	}()
	if syntax.Count(n) > 3000 || syntax.Deep(n) > 600 {
		return "", api.ErrArg
	}
	s = second(n)
	if again, _, e := read(s); e != api.OK || told(again) != told(n) {
		return "", api.ErrArg
	}
	return s, api.OK
}

// grammar makes random programs.
const grammar = `
PROGRAM : ITEM | ITEM PROGRAM | ITEM PROGRAM
ITEM : EXPR line | BEGIN BLOCK | END BLOCK | function f( ) BLOCK | function f( NAMES ) NL BLOCK | persist NAMES ; | EXPR , NL EXPR line | EXPR , EXPR BLOCK | EXPR BLOCK | BLOCK | BLOCK
NAMES : NAME | NAME , NL NAMES
NAME : a | b | c1 | _x
NL : none | none | none | line
BLOCK : { } | { STMTS } | { line STMTS NL }
STMTS : STMT | STMT STMTS | STMT line STMTS
STMT : ; | BLOCK | if ( EXPR ) NL STMT | if ( EXPR ) STMT NL else NL STMT | while ( EXPR ) NL STMT | do NL STMT NL while ( EXPR ) ; | for ( NAME in NAME ) NL STMT | for ( PART ; COND ; NL PART ) NL STMT | SIMPLE ; | SIMPLE line | SIMPLE ; | EXPR line
PART : none | SIMPLE
COND : none | EXPR
SIMPLE : next | break | continue | exit | exit EXPR | return | return EXPR | delete NAME | delete NAME [ LIST ] | print | print LIST | print > SUM | print LIST > SUM | print ( LIST , EXPR ) >> OPERAND OPERAND | printf LIST | printf ( EXPR , LIST ) > NAME | EXPR
LIST : EXPR | EXPR , NL LIST
EXPR : OPERAND | PLACE = NL EXPR | PLACE += EXPR | PLACE %= EXPR | OR question EXPR : NL EXPR | OR | SUM | SUM
OR : OPERAND | AND | OR || NL AND
AND : OPERAND | IN | AND && NL IN
IN : OPERAND | MATCH | IN in NAME | ( LIST ) in NAME | ( EXPR , EXPR ) in NAME
MATCH : OPERAND | CMP | MATCH ~ CMP | MATCH !~ /r[/]\/\\/ | (/s/) ~ CMP
CMP : OPERAND | SUM < SUM | SUM <= SUM | SUM == SUM | SUM != SUM | SUM >= SUM | ( EXPR > EXPR )
SUM : OPERAND | TERM | SUM + TERM | SUM - TERM | SUM TERM | SUM TERM
TERM : OPERAND | UNARY | TERM * UNARY | TERM / UNARY | TERM % UNARY
UNARY : OPERAND | ! UNARY | - UNARY | + UNARY | ++ PLACE | -- PLACE | PLACE ++ | PLACE --
PLACE : NAME | NAME [ LIST ] | $ OPERAND | $ ++ PLACE | $ NAME
LEAF : 1 | 0 | .5 | 1.50 | "s\"\n/\q" | "" | /r/ | /[/]/ | NAME | NAME | NAME
OPERAND : LEAF | LEAF | LEAF | PLACE | ( EXPR ) | ( EXPR ) | f( ) | f( LIST ) | length | length( ) | sprintf( LIST ) | sub( EXPR , EXPR , ( PLACE ) ) | split( EXPR , NAME ) | sync ( ) | getline | getline PLACE | getline < OPERAND | ( getline PLACE < OPERAND )
`

// readable is a random text of PROGRAM or EXPR that is a program.
func readable(pick func(n int) int, made *samples.Grammar, rule string, deep int) string {
	for {
		s := made.Text(pick, rule, deep)
		if _, _, e := syntax.Parse(s); e == api.OK {
			return s
		}
	}
}

// patternBehind tells whether n has a pattern alone as a statement behind the ) of if, while or for, where only a line feed lets a / begin one.
func patternBehind(n api.Node) bool {
	body := -1
	switch n.K {
	case api.SIf, api.SWhile:
		body = 1
	case api.SFor, api.SEach:
		body = len(n.L) - 1
	}
	if body >= 0 && n.L[body].K == api.SExpr && n.L[body].L[0].K == api.ERegex {
		return true
	}
	for _, part := range n.L {
		if patternBehind(part) {
			return true
		}
	}
	return false
}

// P13.2 to P13.5: what syntax.Parse tells of random programs has the text that the document says, and it is read as the same, unless that is too long or too deep, or has a / where none may begin a pattern.
func TestRandomPrograms(t *testing.T) {
	r := rand.New(rand.NewSource(1305))
	made := samples.NewGrammar(grammar)
	shown, patterns, long := 0, 0, 0
	for i := range 10000 {
		s := readable(r.Intn, made, "PROGRAM", 3+r.Intn(8))
		for i%50 == 0 && len(s) < 4000 {
			s += readable(r.Intn, made, "PROGRAM", 4+r.Intn(5))
		}
		if i%50 < 2 {
			s += "a" + strings.Repeat(" b", 150+r.Intn(100)) + "\n"
		}
		n, _, e := syntax.Parse(s)
		if e == api.ErrLong {
			continue
		}
		want := second(n)
		got, e := show.Program(n)
		if again, _, wrong := syntax.Parse(want); patternBehind(n) {
			patterns++
			want = ""
		} else if wrong == api.ErrLong || syntax.Count(n) > 3000 {
			long++
			want = ""
		} else if wrong != api.OK || told(again) != told(n) {
			t.Fatalf("%q: %q is no text of it", s, want)
		} else {
			shown++
		}
		if got != want || (want == "") != (e == api.ErrArg) || (want != "") != (e == api.OK) {
			t.Fatalf("%q: %q, %v, not %q", s, got, e, want)
		}
	}
	if shown < 9000 || patterns < 10 || long < 10 {
		t.Error(shown, patterns, long)
	}
}

// P13.2, P13.5: what syntax.Expr tells of random expressions, likewise.
func TestRandomExpressions(t *testing.T) {
	r := rand.New(rand.NewSource(1302))
	made := samples.NewGrammar(grammar)
	shown := 0
	for range 10000 {
		s := readable(r.Intn, made, "EXPR", 1+r.Intn(12))
		n, _, e := syntax.Expr(s)
		if e != api.OK {
			t.Fatalf("%q: %v", s, e)
		}
		want := second(n)
		_, _, long := syntax.Expr(want)
		got, e := show.Expr(n)
		if long != api.OK {
			if long != api.ErrLong || got != "" || e != api.ErrArg {
				t.Fatalf("%q: %q, %v: %v", s, got, e, long)
			}
			continue
		}
		shown++
		again, _, _ := syntax.Expr(got)
		if got != want || e != api.OK || told(again) != told(n) || !show.Same(again, n) {
			t.Fatalf("%q: %q, %v, not %q", s, got, e, want)
		}
	}
	if shown < 9000 {
		t.Error(shown)
	}
}

// copied is n in memory of its own, made by the test.
func copied(n api.Node) api.Node {
	n.P = append([]string(nil), n.P...)
	l := n.L
	n.L = nil
	for _, part := range l {
		n.L = append(n.L, copied(part))
	}
	return n
}

// nodes are all nodes of n.
func nodes(n *api.Node) []*api.Node {
	l := []*api.Node{n}
	for i := range n.L {
		l = append(l, nodes(&n.L[i])...)
	}
	return l
}

// spoil changes something of n, which other is beside.
func spoil(pick func(n int) int, n *api.Node, other api.Node) {
	switch pick(9) {
	case 0:
		n.K = pick(api.Nodes+4) - 2
	case 1:
		n.S = []string{"", "a", "=", "+", "<", ">", ">>", "!", "++x", "x--", "v", "f", "vf", "0", "1", "10", "11", "01", "111", "010", "000", "length", "in", "a b", "/", "\\", "[", "\n"}[pick(28)]
	case 2:
		n.N = []int64{0, 1, -1, api.One, -1 << 63}[pick(5)]
	case 3:
		n.L = append(n.L, copied(other))
	case 4:
		n.L = n.L[:len(n.L)*pick(4)/4]
	case 5:
		if len(n.L) > 1 {
			n.L[0], n.L[len(n.L)-1] = n.L[len(n.L)-1], n.L[0]
		}
	case 6:
		n.P = append(n.P, []string{"a", "b", "", "in", "f("}[pick(5)])
	case 7:
		n.P = n.P[:len(n.P)/2]
	case 8:
		*n = copied(other)
	}
}

// P13.4: trees that are changed somewhere have the text that they should have, if they are still read as they are; else none.
func TestSpoiled(t *testing.T) {
	r := rand.New(rand.NewSource(1304))
	made := samples.NewGrammar(grammar)
	shown, refused := 0, 0
	for range 20000 {
		write, read, rule := show.Program, syntax.Parse, "PROGRAM"
		if r.Intn(3) == 0 {
			write, read, rule = show.Expr, syntax.Expr, "EXPR"
		}
		n, _, _ := read(readable(r.Intn, made, rule, 2+r.Intn(6)))
		for range 1 + r.Intn(2) {
			l := nodes(&n)
			spoil(r.Intn, l[r.Intn(len(l))], copied(*l[r.Intn(len(l))]))
		}
		before := told(n)
		want, no := secondShow(n, read)
		got, e := write(n)
		if got != want || e != no || told(n) != before {
			t.Fatalf("%s: %q, %v, not %q, %v", before, got, e, want, no)
		}
		if e == api.OK {
			shown++
		} else {
			refused++
		}
	}
	if shown < 2000 || refused < 5000 {
		t.Error(shown, refused)
	}
}

// P13.1: Same and Strip of random trees, and of such as are changed somewhere.
func TestSameAsTold(t *testing.T) {
	r := rand.New(rand.NewSource(1301))
	made := samples.NewGrammar(grammar)
	for range 5000 {
		n, _, _ := syntax.Parse(readable(r.Intn, made, "PROGRAM", 2+r.Intn(6)))
		other := copied(n)
		l := nodes(&other)
		if r.Intn(2) == 0 {
			l[r.Intn(len(l))].At += r.Intn(3)
		} else {
			spoil(r.Intn, l[r.Intn(len(l))], copied(*l[r.Intn(len(l))]))
		}
		if same := told(n) == told(other); show.Same(n, other) != same || show.Same(other, n) != same || !show.Same(n, n) {
			t.Fatalf("%s, %s: not %t", told(n), told(other), same)
		}
		stripped := show.Strip(other)
		if told(stripped) != told(other) {
			t.Fatalf("%s, not %s", told(stripped), told(other))
		}
		for _, part := range nodes(&stripped) {
			if part.At != 0 {
				t.Fatal(part.At)
			}
		}
	}
}
