package lex

import (
	"strings"

	"auklet/api"
)

// quoted reads what stands between two signs, and makes what it stands for: begin is the place of the first of these signs.
type quoted struct {
	*reader
	begin int
	made  strings.Builder
}

// open begins the reading of what stands behind the sign that comes next.
func (r *reader) open() *quoted {
	q := &quoted{reader: r, begin: r.at}
	r.at++
	return q
}

// next reads a byte: there is to be one, as the sign at the end is still missing, and on this line.
func (q *quoted) next() byte {
	left := q.left()
	if left == "" || left[0] == '\n' {
		panic(fault{q.begin, api.ErrShort})
	}
	q.at++
	return left[0]
}

// text reads a text: what it stands for.
func (r *reader) text() string {
	q := r.open()
	for c := q.next(); c != '"'; c = q.next() {
		if c == '\\' {
			q.made.WriteString(meant(q.next()))
		} else {
			q.made.WriteByte(c)
		}
	}
	return q.made.String()
}

// meant is what \ and c behind it stand for in a text.
func meant(c byte) string {
	switch c {
	case 'n':
		return "\n"
	case 't':
		return "\t"
	case '\\', '"', '/':
		return string([]byte{c})
	}
	return string([]byte{'\\', c})
}

// pattern reads a pattern: what stands between the strokes.
func (r *reader) pattern() string {
	q := r.open()
	for c := q.next(); c != '/'; c = q.next() {
		q.put(c)
		if c == '[' {
			q.bracket()
		}
	}
	return q.made.String()
}

// put makes c of a pattern; behind \ the next byte is made with it, whatever it is, and only a / has no \ ahead any more.
func (q *quoted) put(c byte) {
	if c == '\\' {
		if c = q.next(); c != '/' {
			q.made.WriteByte('\\')
		}
	}
	q.made.WriteByte(c)
}

// bracket reads what is left of a bracket, in which a / closes no pattern.
func (q *quoted) bracket() {
	if strings.HasPrefix(q.left(), "^") {
		q.put(q.next())
	}
	if strings.HasPrefix(q.left(), "]") {
		q.put(q.next()) // the first one is a member
	}
	for {
		c := q.next()
		q.put(c)
		if c == ']' {
			return
		}
	}
}
