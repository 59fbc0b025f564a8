package class

import (
	"strings"

	"auklet/api"
)

// Parse is the set of the bracket expression that begins at the place at of s, and the place behind it.
func Parse(s string, at int) (api.Set, int, api.Errno) {
	if at < 0 || at >= len(s) || s[at] != '[' {
		return api.Set{}, 0, api.ErrArg
	}
	at++
	others := strings.HasPrefix(s[at:], "^")
	if others {
		at++
	}
	set, end, e := members(s, at)
	if e != api.OK {
		return api.Set{}, 0, e
	}
	if others {
		set = Not(set)
	}
	return set, end, api.OK
}

// members is what the members from at on, up to a ], come to, and the place behind that ].
func members(s string, at int) (api.Set, int, api.Errno) {
	var set api.Set
	for {
		// The first one is read without a look for ], as a ] that stands first is a byte.
		part, end, e := member(s, at)
		if e != api.OK {
			return api.Set{}, 0, e
		}
		set = Union(set, part)
		if strings.HasPrefix(s[end:], "]") {
			return set, end + 1, api.OK
		}
		at = end
	}
}

// member is the class, the range or the byte at the place at, and the place behind it.
func member(s string, at int) (api.Set, int, api.Errno) {
	if strings.HasPrefix(s[at:], "[:") {
		return classAt(s, at+len("[:"))
	}
	from, end, e := byteAt(s, at)
	if e != api.OK {
		return api.Set{}, 0, e
	}
	to := from
	if goesOn(s[end:]) {
		to, end, e = byteAt(s, end+1)
		if e != api.OK {
			return api.Set{}, 0, e
		}
	}
	if from > to {
		return api.Set{}, 0, api.ErrForm
	}
	return Add(api.Set{}, from, to), end, api.OK
}

// classAt is the class whose name begins at the place at, and the place behind the :] that ends it.
func classAt(s string, at int) (api.Set, int, api.Errno) {
	name, _, ok := strings.Cut(s[at:], ":]")
	if !ok {
		return api.Set{}, 0, api.ErrShort
	}
	set, ok := Named(name)
	if !ok {
		return api.Set{}, 0, api.ErrClass
	}
	return set, at + len(name) + len(":]"), api.OK
}

// byteAt is the byte that stands at the place at, perhaps as \ and one, and the place behind it.
func byteAt(s string, at int) (byte, int, api.Errno) {
	if at == len(s) {
		return 0, 0, api.ErrShort
	}
	if s[at] != '\\' {
		return s[at], at + 1, api.OK
	}
	if at+1 == len(s) {
		return 0, 0, api.ErrShort
	}
	return escaped(s[at+1]), at + 2, api.OK
}

// escaped is the byte that \ and c stand for.
func escaped(c byte) byte {
	switch c {
	case 'n':
		return '\n'
	case 't':
		return '\t'
	}
	return c
}

// goesOn tells whether what stands behind a byte makes it the first one of a range: a -, and neither the end of the expression nor a class behind that.
func goesOn(rest string) bool {
	return strings.HasPrefix(rest, "-") && !strings.HasPrefix(rest, "-]") && !strings.HasPrefix(rest, "-[:")
}

// Show is a bracket expression of s.
func Show(s api.Set) string {
	// An expression has at least one member, so that nothing is written as all others of all bytes.
	if s == (api.Set{}) {
		return "[^" + list(Not(s)) + "]"
	}
	return "[" + list(s) + "]"
}

// list is each byte of s, rising, with \ ahead of those that would mean something else.
func list(s api.Set) string {
	var b strings.Builder
	for i := range 256 {
		c := byte(i)
		if !Has(s, c) {
			continue
		}
		if strings.IndexByte(`^-][\`, c) >= 0 {
			b.WriteByte('\\')
		}
		b.WriteByte(c)
	}
	return b.String()
}
