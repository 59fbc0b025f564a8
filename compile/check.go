package compile

import (
	"slices"
	"sort"
)

// Check tells whether all jumps go to instructions that there are, and all constants, variables, arrays and functions that are named are there.
func (m *Image) Check() bool {
	c := &m.code
	for _, at := range slices.Concat([]int{c.Begin, c.Rules, c.End}, c.Funcs) {
		if !isOf(at, len(c.Ins)) {
			return false
		}
	}
	for i, ins := range c.Ins {
		if !c.has(ins, c.functionAt(i)) {
			return false
		}
	}
	return true
}

// isOf tells whether i is a place among so many.
func isOf(i, many int) bool { return 0 <= i && i < many }

// functionAt is the function in which the i-th instruction stands; -1: in none. Functions stand behind all else, in the order of the table.
func (c *Code) functionAt(i int) int { return sort.SearchInts(c.Funcs, i+1) - 1 }

// has tells whether all that an instruction in a function names is there.
func (c *Code) has(ins Ins, in int) bool {
	if !isOf(int(ins.Op), len(shapes)) {
		return false
	}
	for k, role := range shapes[ins.Op].roles {
		n := ins.N[k]
		is := true
		switch role {
		case constant:
			is = isOf(n, len(c.Consts))
		case target:
			is = isOf(n, len(c.Ins))
		case function:
			is = isOf(n, len(c.Funcs))
		case span:
			is = isOf(n, c.Ranges)
		case place:
			is = c.hasPlace(n, ins.N[k+1], in)
		case array:
			is = (n == Elem || n == ParamElem) && c.hasPlace(n, ins.N[k+1], in)
		}
		if !is {
			return false
		}
	}
	return true
}

// hasPlace tells whether there is a place of a kind, in a function.
func (c *Code) hasPlace(kind, which, in int) bool {
	switch kind {
	case Var:
		return isOf(which, len(c.Table.Vars))
	case Elem:
		return isOf(which, len(c.Table.Arrays))
	case Param, ParamElem:
		if in < 0 {
			return false
		}
		f := c.Table.Funcs[in]
		return isOf(which, len(f.Array)) && f.Array[which] == (kind == ParamElem)
	}
	return kind == Field
}
