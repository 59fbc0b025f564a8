package streams

import (
	"strings"

	"auklet/api"
	"auklet/fields"
)

// source is a text that is read, record by record, from a place on.
type source struct {
	s  string
	at int
}

// next is the next record, and whether there is one.
func (x *source) next(rs string) (string, bool, api.Errno) {
	record, at, ok, e := fields.Next(x.s, x.at, rs)
	// The place is 0 where nothing was read, but behind line feeds that were passed over, also where no record was left.
	x.at = max(x.at, at)
	return record, ok, e
}

// sink is what is written, and whereto.
type sink struct {
	strings.Builder
	name string
}
