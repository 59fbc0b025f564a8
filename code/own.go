package code

import (
	"auklet/api"
	"auklet/cell"
	"auklet/dec"
	"auklet/format"
	"auklet/text"
)

// Own is what the language's function of that name makes of l.
func Own(name string, l []api.Cell) (api.Cell, api.Errno) {
	if !takes(name, len(l)) {
		return api.Cell{}, api.ErrArg
	}
	s := cell.Str(l[0])
	switch name {
	case "length":
		return whole(text.Len(s))
	case "index":
		return whole(text.Index(s, cell.Str(l[1])))
	case "tolower":
		return cell.OfStr(text.Lower(s)), api.OK
	case "toupper":
		return cell.OfStr(text.Upper(s)), api.OK
	case "int":
		return integer(l[0])
	case "substr":
		return part(s, l[1:])
	}
	// Of those that take cells only sprintf is left.
	return made(s, l[1:])
}

// takes tells whether there is such a function of so many cells: each takes one at least.
func takes(name string, many int) bool {
	switch name {
	case "length", "int", "tolower", "toupper":
		return many == 1
	case "index":
		return many == 2
	case "substr":
		return many == 2 || many == 3
	case "sprintf":
		return many >= 1
	}
	return false
}

// whole is the Number of so many ones.
func whole(n int) (api.Cell, api.Errno) { return number(dec.Whole(int64(n))) }

// integer is the whole part of c.
func integer(c api.Cell) (api.Cell, api.Errno) {
	n, e := cell.Num(c)
	if e != api.OK {
		return api.Cell{}, e
	}
	return cell.OfNum(dec.Int(n)), api.OK
}

// part is the one of s that begins where the first of l says, and is as long as the second one says, or, without that, goes to the end.
func part(s string, l []api.Cell) (api.Cell, api.Errno) {
	from, e := Count(l[0])
	if e != api.OK {
		return api.Cell{}, e
	}
	if len(l) == 1 {
		// No text has more characters than bytes.
		return cell.OfStr(text.Sub(s, max(from, 1), len(s))), api.OK
	}
	many, e := Count(l[1])
	if e != api.OK {
		return api.Cell{}, e
	}
	return cell.OfStr(text.Sub(s, from, many)), api.OK
}

// made is the Text that the format f makes of l.
func made(f string, l []api.Cell) (api.Cell, api.Errno) {
	s, e := format.Do(f, l)
	if e != api.OK {
		return api.Cell{}, e
	}
	if len(s) > api.MaxText {
		return api.Cell{}, api.ErrLong
	}
	return cell.OfStr(s), api.OK
}
