package vm

import (
	"auklet/api"
	"auklet/cell"
	"auklet/code"
	"auklet/compile"
	"auklet/dec"
	"auklet/fields"
	"auklet/match"
	"auklet/streams"
)

// The variables that the language sets: a table begins with them.
const (
	nr = iota
	nf
	fs
	ofs
	ors
	rs
	subsep
	rstart
	rlength
)

// machine is a run of a program.
type machine struct {
	code     compile.Code
	keeper   api.Keeper // of arrays that are kept
	vars     []api.Cell
	arrays   []array
	record   *fields.Rec
	io       *streams.Streams
	fuel     int // how many steps are left
	status   int
	ranges   []bool // which are in
	patterns map[string]*match.Pattern

	at     int        // the instruction that comes next
	stack  []api.Cell // what was told, and is yet to be taken
	handed []array    // likewise, of arrays
	walks  [][]string // of each array that is gone through the keys that are left
	calls  []call     // within one another
}

// call is a call that goes on: where the code goes on behind it, its parameters, and how many arrays were gone through where it began.
type call struct {
	back   int
	cells  []api.Cell
	arrays []array
	walks  int
}

// newMachine is a run that is yet to begin. Without a keeper arrays that are kept are in memory.
func newMachine(c compile.Code, in api.Input, k api.Keeper) *machine {
	m := &machine{
		code:     c,
		keeper:   k,
		vars:     make([]api.Cell, len(c.Table.Vars)),
		arrays:   make([]array, len(c.Table.Arrays)),
		record:   fields.New(),
		io:       streams.New(in.Main, in.Files),
		fuel:     min(in.Fuel, api.MaxFuel),
		ranges:   make([]bool, c.Ranges),
		patterns: map[string]*match.Pattern{},
	}
	m.vars[nr], m.vars[rstart], m.vars[rlength] = number(0), number(0), number(-1)
	m.vars[fs], m.vars[ofs] = cell.OfStr(" "), cell.OfStr(" ")
	m.vars[ors], m.vars[rs] = cell.OfStr("\n"), cell.OfStr("\n")
	m.vars[subsep] = cell.OfStr("\x1c")
	for i, name := range c.Table.Arrays {
		m.arrays[i] = newArray()
		switch {
		case !c.Table.Keep[i]:
		case k != nil:
			m.arrays[i] = array{k, name}
		default:
			m.arrays[i].fill(in.Kept, name)
		}
	}
	return m
}

// number is the Number of so many ones.
func number(n int) api.Cell { return cell.OfNum(must(dec.Whole(int64(n)))) }

// run runs the program, and is what it tells, but for arrays.
func (m *machine) run() api.Result {
	e := m.ended()
	return api.Result{Out: m.io.Out(), Files: m.io.Files(), Status: m.status, Err: e}
}

// ended runs the program, and is the error that ended it, if one did.
func (m *machine) ended() (e api.Errno) {
	defer func() {
		if x := recover(); x != nil {
			f := x.(fault) // what is no fault of the run goes on as a panic
			e = f.e
		}
	}()
	if !m.part(m.code.Begin) && m.code.Reads {
		m.records()
	}
	m.part(m.code.End)
	return api.OK
}

// records goes through the main input, record by record.
func (m *machine) records() {
	for {
		s, ok, e := m.io.Main(m.text(rs))
		check(e)
		if !ok {
			return
		}
		m.step()
		m.count()
		m.take(s)
		if m.part(m.code.Rules) {
			return
		}
	}
}

// kept are the arrays that are kept.
func (m *machine) kept() []api.Array {
	var l []api.Array
	for i, name := range m.code.Table.Arrays {
		if m.code.Table.Keep[i] {
			l = append(l, m.arrays[i].told(name))
		}
	}
	return l
}

// text is the text of a variable that the language sets.
func (m *machine) text(which int) string { return cell.Str(m.vars[which]) }

// step counts a step.
func (m *machine) step() {
	if m.fuel <= 0 {
		check(api.ErrFuel)
	}
	m.fuel--
}

// count counts a record of the main input.
func (m *machine) count() { m.vars[nr] = must(code.Two("+", m.vars[nr], number(1))) }

// take makes s the record.
func (m *machine) take(s string) {
	by := m.text(fs)
	if isPattern(by) {
		limit(len(s), api.MaxSubject)
	}
	check(m.record.Take(s, by))
}
