package format

import (
	"strings"
	"unicode/utf8"

	"auklet/api"
	"auklet/cell"
	"auklet/dec"
	"auklet/text"
)

// What stands for a width, or a precision, that there is none of, and for one that a cell is to tell.
const (
	none = -1
	star = -2
)

// letters are those with which a directive may end.
const letters = "dioxXcsf%"

// usual is the precision of f, if there is none.
const usual = 6

// directive is what stands behind a %.
type directive struct {
	left, plus, blank, zero bool
	wide, exact             int
	letter                  byte
}

// read reads the directive with which s, which is what stands behind a %, begins, and tells what is behind it.
func read(s string) (directive, string, bool) {
	var d directive
	s = d.flags(s)
	d.wide, s = size(s)
	d.exact = none
	if rest, ok := strings.CutPrefix(s, "."); ok {
		d.exact, s = size(rest)
		if d.exact == none {
			d.exact = 0
		}
	}
	if s == "" || strings.IndexByte(letters, s[0]) < 0 || d.wide > api.MaxWidth || d.exact > api.MaxWidth {
		return directive{}, "", false
	}
	d.letter = s[0]
	return d, s[1:], true
}

// flags reads those with which s begins, and tells what is behind them.
func (d *directive) flags(s string) string {
	for i := range len(s) {
		switch s[i] {
		case '-':
			d.left = true
		case '+':
			d.plus = true
		case ' ':
			d.blank = true
		case '0':
			d.zero = true
		default:
			return s[i:]
		}
	}
	return ""
}

// size reads the width, or precision, with which s begins, and tells what is behind it.
func size(s string) (int, string) {
	if rest, ok := strings.CutPrefix(s, "*"); ok {
		return star, rest
	}
	n, at := 0, 0
	for ; at < len(s) && '0' <= s[at] && s[at] <= '9'; at++ {
		// What is too great stays so, however many digits come.
		n = min(10*n+int(s[at]-'0'), api.MaxWidth+1)
	}
	if at == 0 {
		return none, s
	}
	return n, s[at:]
}

// takes is how many cells d takes.
func (d directive) takes() int {
	many := 0
	for _, n := range [...]int{d.wide, d.exact} {
		if n == star {
			many++
		}
	}
	if d.letter != '%' {
		many++
	}
	return many
}

// makes is what d makes of the next cells.
func (d directive) makes(left *cells) (string, api.Errno) {
	if e := d.fill(left); e != api.OK {
		return "", e
	}
	if d.letter == '%' {
		return "%", api.OK
	}
	s, e := d.body(left.next())
	if e != api.OK {
		return "", e
	}
	return Pad(s, d.wide, d.left, d.zero && d.mayZero()), api.OK
}

// fill puts what the next cells tell in the place of stars, from the left.
func (d *directive) fill(left *cells) api.Errno {
	for _, n := range [...]*int{&d.wide, &d.exact} {
		if *n != star {
			continue
		}
		told, e := bounded(left.next())
		if e != api.OK {
			return e
		}
		*n = told
	}
	return api.OK
}

// bounded is what a cell tells for a star.
func bounded(c api.Cell) (int, api.Errno) {
	n, e := cell.Num(c)
	if e != api.OK {
		return 0, e
	}
	n /= api.One
	if n < 0 || n > api.MaxWidth {
		return 0, api.ErrFormat
	}
	return int(n), api.OK
}

// mayZero tells whether noughts may stand ahead of what d makes, in the place of blanks.
func (d directive) mayZero() bool {
	switch d.letter {
	case 'f':
		return true
	case 'c', 's':
		return false
	}
	return d.exact == none
}

// body is what d makes of c, as wide as it comes.
func (d directive) body(c api.Cell) (string, api.Errno) {
	switch d.letter {
	case 'c':
		return character(c)
	case 's':
		return d.beginning(cell.Str(c)), api.OK
	}
	n, e := cell.Num(c)
	if e != api.OK {
		return "", e
	}
	return d.number(n), api.OK
}

// character is the one of which c, if it is a Number, is the code, and else its text's first.
func character(c api.Cell) (string, api.Errno) {
	if c.K != api.Number {
		return text.Sub(cell.Str(c), 1, 1), api.OK
	}
	code := c.N / api.One
	// Held against its rune, as one that is too great would come round to another one.
	r := rune(code)
	if int64(r) != code || !utf8.ValidRune(r) {
		return "", api.ErrFormat
	}
	return string(r), api.OK
}

// beginning is what the precision leaves of s.
func (d directive) beginning(s string) string {
	if d.exact == none {
		return s
	}
	return text.Sub(s, 1, d.exact)
}

// number is what d makes of n.
func (d directive) number(n int64) string {
	switch d.letter {
	case 'o':
		return d.digits(n, 8)
	case 'x', 'X':
		return d.digits(n, 16)
	case 'f':
		return d.sign(n) + strings.TrimPrefix(d.fixed(n), "-")
	}
	// Only the whole part is written: of what is within one of 0 it is 0, which has no sign.
	return d.sign(dec.Int(n)) + d.digits(n, 10)
}

// digits are those of n's whole part, as many as the precision at least: of 0 none, if that is 0.
func (d directive) digits(n int64, base int) string {
	if d.exact == 0 && dec.Int(n) == 0 {
		return ""
	}
	return Pad(Whole(n, base, d.letter == 'X'), d.exact, false, true)
}

// fixed is n with as many digits behind the point as the precision says.
func (d directive) fixed(n int64) string {
	if d.exact == none {
		return Fixed(n, usual)
	}
	return Fixed(n, d.exact)
}

// sign is what stands ahead of n's digits.
func (d directive) sign(n int64) string {
	switch {
	case n < 0:
		return "-"
	case d.plus:
		return "+"
	case d.blank:
		return " "
	}
	return ""
}
