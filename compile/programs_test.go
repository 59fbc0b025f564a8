package compile_test

import (
	"strings"
	"testing"

	"auklet/api"
	"auklet/resolve"
	"auklet/samples"
)

// grammar makes random programs whose names are what they should be. Statements are of a kind for each place in which they may stand: statements has those of one place, with @ for it, and & for a loop in it.
const grammar = `
ALL : PROGRAM FUNCS | FUNCS PROGRAM
FUNCS : function f( p , q ) { q [ p ] ; STMTF STMTF } function g( q , p ) { STMTF q [ 1 ] ; STMTF } function h( ) BLOCKF
PROGRAM : ITEM | ITEM PROGRAM | ITEM PROGRAM | ITEM PROGRAM
ITEM : BLOCKR | BLOCKR | BEGIN BLOCKB | END BLOCKB | EXPR line | EXPR BLOCKR | EXPR BLOCKR | EXPR , EXPR BLOCKR | EXPR , EXPR line | persist a ; | persist c , q line
LEAVER : next
LEAVEB : exit
LEAVEF : return | return EXPR
LEAVERL : break | continue | next
LEAVEBL : break | continue
LEAVEFL : break | continue | return EXPR
COND : none | EXPR
LIST : EXPR | EXPR , EXPR
EXPR : OPERAND | OPERAND | PLACE SETS EXPR | OPERAND question EXPR : EXPR | OPERAND || OPERAND || OPERAND | OPERAND && OPERAND | OPERAND in ARRAY | ( EXPR , EXPR ) in ARRAY | OPERAND MATCHES PATTERN | OPERAND COMPARES OPERAND | ( OPERAND > OPERAND ) | OPERAND OPERAND | OPERAND RECKONS OPERAND | SIGNS OPERAND | STEP | OWN | CALL | GET
SETS : = | = | += | -= | *= | /= | %=
MATCHES : ~ | !~
COMPARES : < | <= | == | != | >=
RECKONS : + | - | * | / | %
SIGNS : ! | - | +
STEP : PLACE ++ | PLACE -- | ++ PLACE | -- PLACE
OPERAND : LEAF | LEAF | PLACE | ( EXPR ) | ( /r+/ ) | OWN | CALL | GET
LEAF : 1 | 0 | 2.5 | "s" | "" | VAR
VAR : x | y | p | NF | NR | FS
ARRAY : a | b | q
PLACE : VAR | ARRAY [ LIST ] | $ LEAF | $ ( EXPR )
PATTERN : /r/ | /[/]+/ | OPERAND
OWN : length | length( ) | length( EXPR ) | substr( LIST , EXPR ) | index( EXPR , EXPR ) | split( EXPR , ARRAY ) | split( EXPR , ARRAY , PATTERN ) | sub( PATTERN , EXPR ) | gsub( PATTERN , EXPR , PLACE ) | match( EXPR , PATTERN ) | sprintf( LIST ) | tolower( EXPR ) | toupper( EXPR ) | int( EXPR ) | sync( )
CALL : f( ) | f( EXPR ) | f( EXPR , ARRAY ) | g( ARRAY ) | g( ARRAY , EXPR ) | g( ) | h( )
GET : ( getline ) | ( getline PLACE ) | ( getline < OPERAND ) | ( getline PLACE < OPERAND )
`

const statements = `
BLOCK@ : { } | { STMT@ } | { STMT@ STMT@ } | { STMT@ STMT@ STMT@ }
STMT@ : SIMPLE@ ; | SIMPLE@ line | LEAVE@ ; | LEAVE@ ; | ; | BLOCK@ | if ( EXPR ) STMT@ | if ( EXPR ) STMT@ else STMT@ | while ( EXPR ) STMT& | do STMT& while ( EXPR ) ; | for ( VAR in ARRAY ) STMT& | for ( PART& ; COND ; PART& ) STMT&
PART@ : none | SIMPLE@ | LEAVE@
SIMPLE@ : EXPR | EXPR | exit | exit EXPR | print | print LIST | print EXPR > OPERAND | print ( EXPR , EXPR ) >> OPERAND | print > OPERAND | printf LIST | printf ( LIST , EXPR ) | printf LIST >> OPERAND | delete ARRAY | delete ARRAY [ LIST ]
`

// programs is the grammar with the statements of rules, of BEGIN and END, and of functions.
func programs() *samples.Grammar {
	all := grammar
	for _, at := range []string{"R", "B", "F"} {
		all += strings.NewReplacer("@", at, "&", at+"L").Replace(statements)
		all += strings.NewReplacer("@", at+"L", "&", at+"L").Replace(statements)
	}
	return samples.NewGrammar(strings.ReplaceAll(strings.TrimSpace(all), "\n\n", "\n"))
}

// random is a random program, and its tree.
func random(t *testing.T, pick func(n int) int, g *samples.Grammar) (string, api.Node) {
	t.Helper()
	for {
		s := g.Text(pick, "ALL", 4+pick(6))
		n, _, at, e := resolve.Program(s)
		if e == api.OK {
			return s, n
		}
		if e != api.ErrLong {
			t.Fatalf("%q: %d, %v", s, at, e)
		}
	}
}
