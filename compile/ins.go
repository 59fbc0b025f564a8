package compile

import "auklet/api"

// Op is what an instruction does. A machine has a stack: an instruction takes from it what it needs, and lays on it what it tells.
type Op int

// Ins is an instruction: what it does, and its numbers, as many as it has, one behind the other.
type Ins struct {
	Op Op
	N  [3]int
}

// The kinds of places, which can be asked and set. An array is told by the kind of its elements.
const (
	Var       = iota // a variable of the program
	Param            // a parameter of the function
	Elem             // an element of an array of the program: its subscript lies on the stack
	ParamElem        // an element of a parameter that is an array: likewise
	Field            // a field: its number lies on the stack
)

// The instructions, each with its numbers ahead of the colon. A sign, or a name, is the constant of that text; a place is two numbers, its kind and which one of that kind it is, and so is an array; a target is an instruction.
const (
	// Values.
	Push    Op = iota // a constant: lays it
	Load              // a place: lays what is there
	Key               // how many: takes so many values, lays the subscript that they make
	Has               // an array: takes a subscript, lays whether the element is there
	Assign            // a sign, a place: takes, below what the place needs, a value; sets the place to it, or to what the sign makes of what is there and it; lays what was set
	Step              // a sign, a place: sets it to one more or one less, lays what ++x, --x, x++ or x-- tells
	Two               // a sign: takes two values, lays what it makes of them
	One               // a sign: takes a value, lays what it makes of it
	Join              // takes two values, lays them as one text
	Truth             // takes a value, lays whether it is true
	Pattern           // makes sure that the value that lies on top is a pattern
	Match             // takes a text and a pattern, lays whether it is found
	Find              // takes a text and a pattern, lays where it is found, as match tells it
	Split             // 1, if by a pattern, else 0; an array: takes a text and a separator, fills the array with the parts, lays how many
	Sub               // 1, if all, else 0; a place: takes, below what the place needs, a pattern and what to put; lays how many were replaced
	Own               // a name, how many: takes so many values, lays what the language's function of that name makes of them
	Sync              // lets kept arrays stand fast, lays 1
	Array             // an array: lays the array itself, for a call
	Call              // a function, how many: takes so many parts, goes into the function, which lays what it tells
	Read              // 1, if of a file, else 0; a target: takes the file's name; lays the next record, or, if there is none, what getline tells then, and jumps
	Take              // takes a text, which is the record from now on

	// Statements.
	Stmt       // a statement begins
	Pop        // takes a value
	Jump       // a target: goes on there
	JumpIf     // a target: takes a value, goes on there if it is true
	JumpUnless // a target: takes a value, goes on there if it is not true
	Keys       // an array: sets out to go through its keys, within what else is gone through
	More       // a target: lays the next key; goes on there, if there is none
	Done       // goes through these keys no more
	Delete     // an array: takes a subscript, deletes the element
	Clear      // an array: deletes all elements
	Print      // a sign, how many: takes, if there is a sign, where to, and below it so many values; prints them, or, if they are none, the record
	Format     // likewise: prints the text that sprintf makes of the values
	Exit       // how many: takes the status, if there is one; ends the part of the run
	Return     // takes what the function tells, goes back to where it was called
	Inside     // a range, a target: goes on there, if the range is in
	Enter      // a range: it is in from now on
	Leave      // a range: it is in no more
	Stop       // ends the blocks of BEGIN or END, or the rules for this record
)

// Code is all that a machine needs to know of a program.
type Code struct {
	Ins    []Ins
	Consts []api.Cell
	Table  api.Table
	Begin  int   // where the blocks of BEGIN begin
	Rules  int   // where the rules begin, which are for each record
	End    int   // where the blocks of END begin
	Funcs  []int // where each function of the table begins
	Ranges int   // how many ranges there are, none of which is in at first
	Reads  bool  // whether the main input is gone through, record by record
}

// role is what a number of an instruction stands for.
type role uint8

const (
	unused   role = iota
	amount        // how many, or which of two ways
	constant      // a constant
	target        // the instruction at which it may go on
	function      // a function
	span          // a range
	place         // the kind of a place
	array         // the kind of an array
	ofKind        // which place, or array, of the kind ahead
)

// shapes has of each instruction its name in a list, and what its numbers stand for.
var shapes = [...]struct {
	name  string
	roles [3]role
}{
	Push:       {"push", [3]role{constant}},
	Load:       {"load", [3]role{place, ofKind}},
	Key:        {"key", [3]role{amount}},
	Has:        {"has", [3]role{array, ofKind}},
	Assign:     {"assign", [3]role{constant, place, ofKind}},
	Step:       {"step", [3]role{constant, place, ofKind}},
	Two:        {"two", [3]role{constant}},
	One:        {"one", [3]role{constant}},
	Join:       {"join", [3]role{}},
	Truth:      {"truth", [3]role{}},
	Pattern:    {"pattern", [3]role{}},
	Match:      {"match", [3]role{}},
	Find:       {"find", [3]role{}},
	Split:      {"split", [3]role{amount, array, ofKind}},
	Sub:        {"sub", [3]role{amount, place, ofKind}},
	Own:        {"own", [3]role{constant, amount}},
	Sync:       {"sync", [3]role{}},
	Array:      {"array", [3]role{array, ofKind}},
	Call:       {"call", [3]role{function, amount}},
	Read:       {"read", [3]role{amount, target}},
	Take:       {"take", [3]role{}},
	Stmt:       {"stmt", [3]role{}},
	Pop:        {"pop", [3]role{}},
	Jump:       {"jump", [3]role{target}},
	JumpIf:     {"jumpif", [3]role{target}},
	JumpUnless: {"jumpunless", [3]role{target}},
	Keys:       {"keys", [3]role{array, ofKind}},
	More:       {"more", [3]role{target}},
	Done:       {"done", [3]role{}},
	Delete:     {"delete", [3]role{array, ofKind}},
	Clear:      {"clear", [3]role{array, ofKind}},
	Print:      {"print", [3]role{constant, amount}},
	Format:     {"format", [3]role{constant, amount}},
	Exit:       {"exit", [3]role{amount}},
	Return:     {"return", [3]role{}},
	Inside:     {"inside", [3]role{span, target}},
	Enter:      {"enter", [3]role{span}},
	Leave:      {"leave", [3]role{span}},
	Stop:       {"stop", [3]role{}},
}
