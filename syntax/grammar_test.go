package syntax_test

import (
	"math/rand"
	"slices"
	"strings"
	"testing"

	"auklet/api"
	"auklet/lex"
	"auklet/syntax"
)

// grammar is the document's grammar, rule by rule, with | between; a part of upper-case letters is a rule, others are tokens. What begins with ? or ^ takes no token: one of those behind it has to come, or none of them. A rule whose name ends with ' is of a print, without > outside of brackets. (The perhaps of getline and length, and ++ behind what can be set, are taken whenever they come.)
const grammar = `
START : PROGRAM end
PROGRAM : | PROGRAM CLOSED | PROGRAM OPEN ?line,;,end | PROGRAM line | PROGRAM ;
NL : | NL line
CLOSED : BEGIN BLOCK | END BLOCK | function FNAME ( ) NL BLOCK | function FNAME ( NAMES ) NL BLOCK | PATTERN BLOCK | BLOCK
OPEN : persist NAMES | PATTERN ^{
PATTERN : EXPR | EXPR , NL EXPR
FNAME : name | call
NAMES : name | NAMES , NL name
BLOCK : { BODY }
BODY : | BODY STMT | BODY line
STMT : BLOCK | ; | if ( EXPR ) NL STMT | if ( EXPR ) NL STMT NL else NL STMT | while ( EXPR ) NL STMT | do NL STMT NL while ( EXPR ) STOP | for ( name in name ) NL STMT | for ( PART ; NL COND ; NL PART ) NL STMT | SIMPLE STOP
PART : | SIMPLE
COND : | EXPR
STOP : ; | line | ?},end
SIMPLE : print | print TO | print LIST' | print LIST' TO | printf LIST' | printf LIST' TO | delete name | delete name [ LIST ] | next | exit | exit EXPR | return | return EXPR | break | continue | EXPR
TO : > CAT | >> CAT
LIST : EXPR | LIST , NL EXPR
LIST' : OUTER' | ( LIST )
OUTER' : EXPR' | OUTER' , NL EXPR'
EXPR : LVALUE SET NL EXPR | OR | OR QUESTION NL EXPR : NL EXPR
EXPR' : LVALUE SET NL EXPR' | OR' | OR' QUESTION NL EXPR' : NL EXPR'
QUESTION : question
SET : = | += | -= | *= | /= | %=
OR : AND | OR || NL AND
OR' : AND' | OR' || NL AND'
AND : IN | AND && NL IN
AND' : IN' | AND' && NL IN'
IN : MATCH | ( LIST ) in name | IN in name
IN' : MATCH' | ( LIST ) in name | IN' in name
MATCH : CMP | MATCH ~ CMP | MATCH !~ CMP
MATCH' : CMP' | MATCH' ~ CMP' | MATCH' !~ CMP'
CMP : CMP' | CAT > CAT
CMP' : CAT | CAT < CAT | CAT <= CAT | CAT == CAT | CAT != CAT | CAT >= CAT
CAT : SUM | CAT ?num,str,name,call,own,length,$,(,++,-- SUM
SUM : TERM | SUM + TERM | SUM - TERM
TERM : UNARY | TERM * UNARY | TERM / UNARY | TERM % UNARY
UNARY : ! UNARY | - UNARY | + UNARY | POST
POST : ++ LVALUE | -- LVALUE | LVALUE ++ | LVALUE -- | PRIMARY
LVALUE : name | name [ LIST ] | $ ++ LVALUE | $ -- LVALUE | $ PRIMARY
PRIMARY : num | str | regex | LVALUE | ( EXPR ) | call ( ) | call ( LIST ) | own ( ) | own ( LIST ) | length ( ) | length ( LIST ) | length ^( | getline ^name,$,< | getline LVALUE ^< | getline < PRIMARY | getline LVALUE < PRIMARY
`

// production is one of what a rule may be.
type production struct {
	rule  string
	parts []string
}

// productions are those of the grammar, by their rules.
func productions() map[string][]production {
	all := map[string][]production{}
	for _, line := range strings.Split(strings.TrimSpace(grammar), "\n") {
		rule, is, _ := strings.Cut(line, " : ")
		for _, one := range strings.Split(" "+is+" ", " | ") {
			all[rule] = append(all[rule], production{rule, strings.Fields(one)})
		}
	}
	return all
}

// item is a production of which a part was read, from a place on.
type item struct {
	p    *production
	done int
	from int
}

// chart tells of texts of tokens whether they go on by the grammar: of each place it has what may stand there.
type chart struct {
	all  map[string][]production
	sets [][]item
}

// begin is a chart in which no token was read.
func begin(all map[string][]production) *chart {
	return &chart{all: all, sets: [][]item{{{&production{"", []string{"START"}}, 0, 0}}}}
}

// closed is what may stand at the last place, if token comes.
func (c *chart) closed(token string) []item {
	here := len(c.sets) - 1
	set := slices.Clone(c.sets[here])
	known := map[item]int{}
	for _, x := range set {
		known[x] = 1
	}
	empty := map[string]int{}
	add := func(x item) {
		if known[x] == 0 {
			known[x] = 1
			set = append(set, x)
		}
	}
	for i := 0; i < len(set); i++ {
		x := set[i]
		if x.done == len(x.p.parts) {
			if x.from == here {
				empty[x.p.rule] = 1
			}
			behind := c.sets[x.from]
			if x.from == here {
				behind = set
			}
			for _, y := range behind {
				if y.done < len(y.p.parts) && y.p.parts[y.done] == x.p.rule {
					add(item{y.p, y.done + 1, y.from})
				}
			}
			continue
		}
		part := x.p.parts[x.done]
		if len(part) > 1 && (part[0] == '?' || part[0] == '^') {
			if slices.Contains(strings.Split(part[1:], ","), token) == (part[0] == '?') {
				add(item{x.p, x.done + 1, x.from})
			}
			continue
		}
		for j := range c.all[part] {
			add(item{&c.all[part][j], 0, here})
		}
		if empty[part] > 0 {
			add(item{x.p, x.done + 1, x.from})
		}
	}
	return set
}

// goesOn tells whether the text goes on with token, and is then one token longer, if it is taken.
func (c *chart) goesOn(token string, take bool) bool {
	set := c.closed(token)
	var next []item
	for _, x := range set {
		if x.done < len(x.p.parts) && x.p.parts[x.done] == token {
			next = append(next, item{x.p, x.done + 1, x.from})
		}
	}
	if take {
		c.sets[len(c.sets)-1] = set
		c.sets = append(c.sets, next)
	}
	return len(next) > 0
}

// kindOf is what the grammar says for a token.
func kindOf(w api.Token) string {
	switch w.K {
	case api.TokEnd, api.TokLine, api.TokNum, api.TokStr, api.TokRegex, api.TokName, api.TokCall:
		return []string{"end", "line", "num", "str", "regex", "name", "call"}[w.K]
	case api.TokOwn:
		if w.S != "length" {
			return "own"
		}
	}
	if w.S == "?" {
		return "question"
	}
	return w.S
}

// firstWrong is the place of the first token of words with which nothing goes on, and whether there is one.
func firstWrong(all map[string][]production, words []api.Token) (int, bool) {
	c := begin(all)
	for _, w := range words {
		if !c.goesOn(kindOf(w), true) {
			return w.At, true
		}
	}
	return 0, false
}

// pieces are the tokens of which the texts are made.
const pieces = "BEGIN END function if else while for do break continue next exit return delete in getline print printf persist " +
	"1 \"s\" /r/ a b f( length sync( { } ( ) [ ] ; , + - * / % < > ! ~ ? : = $ ++ -- += == >> <= !~ && || \n"

// split are the pieces.
func split() []string { return append(strings.Fields(pieces), "\n") }

// same holds Parse of s against the grammar, as long as what it says is of the grammar alone.
func same(t *testing.T, all map[string][]production, s string) {
	t.Helper()
	words, _, e := lex.Words(s)
	if e != api.OK {
		return
	}
	at, is := firstWrong(all, words)
	n, got, e := syntax.Parse(s)
	if e == api.ErrForm && !is || e == api.ErrForm && got < at {
		for _, w := range words {
			if w.At == got && w.K == api.TokOwn {
				return // of the number of its arguments the grammar says nothing
			}
		}
	}
	if is != (e == api.ErrForm) || at != got || !is && (e != api.OK || n.K != api.Program) {
		t.Errorf("Parse(%q): %d, %v, not %d, %t", s, got, e, at, is)
	}
}

// P12.1, P12.3: all short texts of tokens: an error is where nothing goes on by the grammar, and nowhere else.
func TestGrammarOfShort(t *testing.T) {
	all := productions()
	l := split()
	for _, ahead := range []string{"", "{", "{ print", "{ for ("} {
		shorter := []string{ahead}
		for range 2 {
			var longer []string
			for _, s := range shorter {
				c := begin(all)
				words, _, e := lex.Words(s)
				if e != api.OK {
					continue
				}
				goes := true
				for _, w := range words[:len(words)-1] {
					goes = goes && c.goesOn(kindOf(w), true)
				}
				if !goes {
					continue
				}
				for _, piece := range l {
					longer = append(longer, s+" "+piece)
				}
			}
			for _, s := range longer {
				same(t, all, s)
			}
			shorter = longer
		}
	}
}

// longer is a text with a piece more with which the grammar goes on, as often as tries find one; s itself else.
func longer(c *chart, r *rand.Rand, l []string, s string) string {
	for range 60 {
		piece := l[r.Intn(len(l))]
		ahead, _, _ := lex.Words(s)
		words, _, e := lex.Words(s + " " + piece)
		if e != api.OK || len(words) < len(ahead) {
			continue
		}
		added := words[len(ahead)-1 : len(words)-1]
		if len(added) == 0 || !c.goesOn(kindOf(added[0]), false) {
			continue
		}
		for _, w := range added {
			c.goesOn(kindOf(w), true)
		}
		return s + " " + piece
	}
	return s
}

// P12.1, P12.3: long texts of tokens that go on by the grammar, each with another token behind.
func TestGrammarOfLong(t *testing.T) {
	all := productions()
	r := rand.New(rand.NewSource(12))
	l := split()
	for range 120 {
		c := begin(all)
		s := ""
		for range 25 {
			s = longer(c, r, l, s)
			same(t, all, s)
			for range 2 {
				same(t, all, s+" "+l[r.Intn(len(l))])
			}
		}
	}
}
